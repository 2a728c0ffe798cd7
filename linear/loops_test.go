package linear_test

import (
	"fmt"
	"math"
	"testing"

	"freshet/api"
	"freshet/linear"
)

// in is a time in a round of a loop, in the first round of the other one.
func in(loop int, epoch, round uint64) api.Time {
	t := at(epoch)
	t.Loop[loop] = round
	return t
}

// 11.3: the update, and its end in the next round.
func TestEnter(t *testing.T) {
	big := int64(1) << 62
	for loop := range maxLoops {
		other := 1 - loop
		deep := in(loop, 4, 2)
		deep.Loop[other] = maxNumber
		deeper := deep
		deeper.Loop[loop]++
		for i, x := range []struct {
			l    []api.Update
			want outcome
		}{
			{nil, fine()},
			{ups(up(in(loop, 4, 0), -2, "a")), fine(up(in(loop, 4, 0), -2, "a"), up(in(loop, 4, 1), 2, "a"))},
			{ups(up(deep, 1, 1)), fine(up(deep, 1, 1), up(deeper, -1, 1))},
			{ups(keyed(row(5), up(at(0), 1, 1))), fine(keyed(row(5), up(at(0), 1, 1)), keyed(row(5), up(in(loop, 0, 1), -1, 1)))},
			{ups(up(at(0), 0, 1)), fine()},
			{ups(up(at(0), 1, 1), up(at(0), -1, 1)), fine()},
			// What ends in a round, and what begins there.
			{ups(up(at(0), 3, 1), up(in(loop, 0, 1), 3, 1)), fine(up(at(0), 3, 1), up(in(loop, 0, 2), -3, 1))},
			{ups(up(at(0), 3, 1), up(in(loop, 0, 1), 5, 1)), fine(up(at(0), 3, 1), up(in(loop, 0, 1), 2, 1), up(in(loop, 0, 2), -5, 1))},
			{ups(up(in(loop, 1, 20), 3, 1)), fine(up(in(loop, 1, 20), 3, 1), up(in(loop, 1, 21), -3, 1))},
			// No negated Diff, no next round: the update is there still, and so is all of the others.
			{ups(up(in(loop, 6, 1), least, 1), up(at(7), 1, 1)), failed(in(loop, 6, 1), up(in(loop, 6, 1), least, 1), up(at(7), 1, 1), up(in(loop, 7, 1), -1, 1))},
			{ups(up(in(loop, 6, 1), least+1, 1)), fine(up(in(loop, 6, 1), least+1, 1), up(in(loop, 6, 2), greatest, 1))},
			{ups(up(in(loop, 6, maxNumber), 1, 1)), failed(in(loop, 6, maxNumber), up(in(loop, 6, maxNumber), 1, 1))},
			{ups(up(in(loop, 6, maxNumber-1), 1, 1)), fine(up(in(loop, 6, maxNumber-1), 1, 1), up(in(loop, 6, maxNumber), -1, 1))},
			{ups(up(in(loop, 6, maxNumber), 0, 1)), failed(in(loop, 6, maxNumber))},
			{ups(up(at(9), least, 1), up(in(loop, 8, maxNumber), 1, 1)), failed(in(loop, 8, maxNumber), up(in(loop, 8, maxNumber), 1, 1), up(at(9), least, 1))},
			{ups(up(at(7), least, 1), up(in(loop, 8, maxNumber), 1, 1)), failed(at(7), up(at(7), least, 1), up(in(loop, 8, maxNumber), 1, 1))},
			// Sums that do not fit: those of a round, and those of its end.
			{ups(up(at(0), big, 1), up(at(0), big, 1)), failed(at(0), up(in(loop, 0, 1), least, 1))},
			{ups(up(at(0), least+1, 1), up(in(loop, 0, 1), 1, 1), up(at(0), 1, 2)),
				failed(in(loop, 0, 1), up(at(0), least+1, 1), up(in(loop, 0, 2), -1, 1), up(at(0), 1, 2), up(in(loop, 0, 1), -1, 2))},
		} {
			for _, rounds := range []int{1, 2, maxRounds} {
				want(t, fmt.Sprintf("case %d of loop %d", i, loop), of(linear.Enter(loop, rounds, x.l)), x.want)
			}
		}
	}
}

// 11.3: one round later, but not those of the last one.
func TestNext(t *testing.T) {
	big := int64(1) << 62
	for loop := range maxLoops {
		aside := in(1-loop, 3, maxNumber)
		asideNext := aside
		asideNext.Loop[loop]++
		for i, x := range []struct {
			rounds int
			l      []api.Update
			want   outcome
		}{
			{1, nil, fine()},
			{1, ups(up(in(loop, 3, 0), 2, "a"), up(in(loop, 3, 1), 2, "a"), up(in(loop, 3, 2), 2, "a")), fine(up(in(loop, 3, 1), 2, "a"))},
			{maxRounds, ups(up(in(loop, 3, maxRounds-1), 2, "a"), up(in(loop, 3, maxRounds), 2, "a"), up(in(loop, 3, maxNumber), 2, "a")), fine(up(in(loop, 3, maxRounds), 2, "a"))},
			{1, ups(up(aside, 2, 1)), fine(up(asideNext, 2, 1))},
			{1, ups(keyed(row(5), up(at(0), least, 1))), fine(keyed(row(5), up(in(loop, 0, 1), least, 1)))},
			{2, ups(up(at(0), 1, 1), up(at(0), -1, 1)), fine()},
			{2, ups(up(at(0), 1, 2), up(at(0), 1, 1), up(at(0), 1, 2)), fine(up(in(loop, 0, 1), 1, 1), up(in(loop, 0, 1), 2, 2))},
			{2, ups(up(at(0), 1, 2), up(at(0), greatest, 1), up(at(0), 1, 1)), no(api.ErrOver)},
			{2, ups(up(at(0), greatest, 1), up(at(0), 1, 1), up(at(0), -1, 1)), fine(up(in(loop, 0, 1), greatest, 1))},
			// A sum of those that are left out does not matter.
			{2, ups(up(in(loop, 0, 2), big, 1), up(in(loop, 0, 2), big, 1), up(at(0), 1, 1)), fine(up(in(loop, 0, 1), 1, 1))},
		} {
			want(t, fmt.Sprintf("case %d of loop %d", i, loop), list(linear.Next(loop, x.rounds, x.l)), x.want)
		}
	}
}

// 11.3: no matter the round.
func TestLeave(t *testing.T) {
	big := int64(1) << 62
	for loop := range maxLoops {
		aside := in(1-loop, 3, 9)
		both := aside
		both.Loop[loop] = maxNumber
		for i, x := range []struct {
			l    []api.Update
			want outcome
		}{
			{nil, fine()},
			{ups(up(in(loop, 3, 0), 2, "a"), up(in(loop, 3, 1), 3, "a"), up(in(loop, 3, maxNumber), 4, "a"), up(in(loop, 3, 1), 5, "b")), fine(up(at(3), 9, "a"), up(at(3), 5, "b"))},
			{ups(up(both, 2, 1), up(at(3), 2, 1)), fine(up(at(3), 2, 1), up(aside, 2, 1))},
			{ups(keyed(row(5), up(both, 2, 1))), fine(keyed(row(5), up(aside, 2, 1)))},
			{ups(up(at(3), 2, 1), up(in(loop, 3, 1), -2, 1)), fine()},
			{ups(up(in(loop, 3, 1), big, 1), up(in(loop, 3, 2), big, 1), up(in(loop, 3, 2), 1, 2), up(in(loop, 4, 2), 1, 1)), failed(at(3), up(at(4), 1, 1), up(at(3), 1, 2))},
			{ups(up(in(loop, 5, 1), least, 1), up(in(loop, 5, 2), -1, 1), up(in(loop, 4, 2), -1, 2), up(in(loop, 4, 3), least, 2)), failed(at(4))},
			{ups(up(in(loop, 3, 1), big, 1), up(in(loop, 3, 2), big, 1), up(in(loop, 3, 3), -1, 1)), fine(up(at(3), greatest, 1))},
		} {
			want(t, fmt.Sprintf("case %d of loop %d", i, loop), of(linear.Leave(loop, x.l)), x.want)
		}
	}
}

// 11.1: the error of the updates comes first, then that of the loop or the rounds.
func TestLoopsWrong(t *testing.T) {
	for _, loop := range []int{math.MinInt, -1, 0, 1, maxLoops, 3, math.MaxInt} {
		for _, rounds := range []int{math.MinInt, -1, 0, 1, 2, maxRounds, maxRounds + 1, math.MaxInt} {
			name := fmt.Sprintf("the loop %d and %d rounds", loop, rounds)
			right := loop >= 0 && loop < maxLoops
			for _, l := range [][]api.Update{nil, {}, ups(up(at(1), 1, 1)), ends()} {
				if right && rounds >= 1 && rounds <= maxRounds {
					_, _, why := linear.Enter(loop, rounds, l)
					if _, no := linear.Next(loop, rounds, l); why != api.OK || no != api.OK {
						t.Errorf("%s: errors %d and %d", name, why, no)
					}
				} else {
					want(t, name, of(linear.Enter(loop, rounds, l)), no(api.ErrRange))
					want(t, name, list(linear.Next(loop, rounds, l)), no(api.ErrRange))
				}
				if _, _, why := linear.Leave(loop, l); right != (why == api.OK) {
					t.Errorf("leaving %s: error %d", name, why)
				}
				if !right {
					want(t, name, of(linear.Leave(loop, l)), no(api.ErrRange))
				}
			}
			for why, lists := range wrong() {
				for _, l := range lists {
					want(t, name, of(linear.Enter(loop, rounds, l)), no(why))
					want(t, name, list(linear.Next(loop, rounds, l)), no(why))
					want(t, name, of(linear.Leave(loop, l)), no(why))
				}
			}
		}
	}
}
