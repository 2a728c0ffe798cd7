package join_test

import (
	"fmt"
	"math"
	"reflect"
	"slices"
	"testing"

	"freshet/api"
	"freshet/join"
	"freshet/spine"
)

// plain is a spine without the difference of nil and empty lists.
func plain(s api.Spine) string {
	t := fmt.Sprintf("since %d:", slices.Clone(s.Since))
	for _, l := range s.Levels {
		m := l.Merger
		t += fmt.Sprintf(" class %d, %t, %d %s; %s and %s, %d %d %d, %s.", l.Class, l.Busy, l.Batch.Since, show(l.Batch.Updates), show(m.A), show(m.B), m.I, m.J, m.Since, show(m.Out))
	}
	return t
}

func wantSpines(t *testing.T, name string, l, r, left, right api.Spine) {
	t.Helper()
	if plain(l) != plain(left) || plain(r) != plain(right) {
		t.Errorf("%s: the spines are\n%s\n%s\nwant\n%s\n%s", name, plain(l), plain(r), plain(left), plain(right))
	}
}

// step has updates arrive at a port, and returns the spines; it holds what is produced, and that the updates are in the spine of their port.
func step(t *testing.T, name string, left, right api.Spine, port int, l []api.Update, o outcome) (api.Spine, api.Spine) {
	t.Helper()
	a, b, made, when, why := join.Step(left, right, port, l)
	want(t, name, of(made, when, why), o)
	if port == 0 {
		wantSpines(t, name, a, b, insert(t, left, l), right)
	} else {
		wantSpines(t, name, a, b, left, insert(t, right, l))
	}
	return a, b
}

// 12.2
func TestStep(t *testing.T) {
	var left, right api.Spine
	left, right = step(t, "one that is alone", left, right, 0, ups(up(at(1), 2, 1, "a")), fine())
	left, right = step(t, "one that matches none", left, right, 0, ups(up(at(1), 5, 1, "b")), fine())
	left, right = step(t, "of another key", left, right, 1, ups(up(at(0), 1, 2, "c")), fine())
	left, right = step(t, "one that matches two", left, right, 1, ups(up(at(0, 1), 3, 1, "d")), fine(bare(at(1, 1), 6, row("a", "d")), bare(at(1, 1), 15, row("b", "d"))))
	// Those of one call do not match each other, and those of port 0 stand first.
	left, right = step(t, "some", left, right, 0, ups(up(at(4), 1, 2, "e"), up(at(2), 1, 1, "f"), up(at(2), 1, 3, "g"), up(at(4), 1, 2, "e")),
		fine(bare(at(4), 2, row("e", "c")), bare(at(2, 1), 3, row("f", "d"))))
	left, right = step(t, "one that goes", left, right, 1, ups(up(at(6), -3, 1, "d")), fine(bare(at(6), -6, row("a", "d")), bare(at(6), -15, row("b", "d")), bare(at(6), -3, row("f", "d"))))
	left, right = step(t, "what came and went", left, right, 0, ups(up(at(5), 1, 1, "h")), fine(bare(at(5, 1), 3, row("h", "d")), bare(at(6), -3, row("h", "d"))))
	left, right = step(t, "nothing", left, right, 0, nil, fine())
	left, right = step(t, "nothing at port 1", left, right, 1, ups(up(at(0), 0, 1, "a")), fine())
	step(t, "what is taken back at once", left, right, 1, ups(up(at(0), 1, 1, "a"), up(at(0), -1, 1, "a")), fine())
	// The updates are taken as they are, each by itself: neither summed first, nor advanced.
	big := ups(up(at(0), 1<<62, 1, "a"), up(at(0), -1<<62, 1, "a"))
	step(t, "products that do not fit", left, right, 1, big, failed(at(1), bare(at(1), least, row("a", "a"))))
	right = compact(t, right, at(9))
	step(t, "updates at times of long ago", left, right, 1, ups(up(at(2), 1, 2, "c")), fine(bare(at(4), 2, row("e", "c"))))
	step(t, "updates that match what is advanced", left, right, 0, ups(up(at(2), 1, 1, "h")), fine(bare(at(9), -3, row("h", "d")), bare(at(9, 1), 3, row("h", "d"))))
	step(t, "more that match what is advanced", left, right, 0, ups(up(at(2), 1, 2, "h")), fine(bare(at(9), 1, row("h", "c"))))
}

// A row that fails with a pair is in its spine, and so is what was produced with others.
func TestStepFails(t *testing.T) {
	right := insert(t, api.Spine{}, ups(up(at(2), 1<<32, 1, 1), up(at(1), 1, 1, 2), up(at(3), 1<<32, 3, 3), api.Update{Key: row(4), Row: wide(maxCols), Diff: 1}))
	left, right := step(t, "a product", api.Spine{}, right, 0, ups(up(at(0), 1<<31, 1, 9)), failed(at(2), bare(at(1), 1<<31, row(9, 2))))
	left, right = step(t, "a row", left, right, 0, ups(up(at(5), 1, 4, 9), up(at(1), 1, 4, 9), up(at(1), 1, 4)), failed(at(1), bare(at(1), 1, wide(maxCols))))
	left, right = step(t, "a product, and a row", left, right, 0, ups(up(at(5), 1, 4, 9), up(at(1), -1<<31-1, 3, 9)), failed(at(3)))
	step(t, "sums", left, right, 0, ups(up(at(5), greatest, 1, 8), up(at(5), 1<<31, 3, 8)), failed(at(5), bare(at(5), greatest, row(8, 2))))
}

// overs is spines of the left and the right, and updates at port 0, with which Insert or Group has sums that do not fit.
func overs(t *testing.T) map[string][2]api.Spine {
	few := insert(t, api.Spine{}, ups(up(at(1), 1, 1, 5)), ups(up(at(2), 1, 2, 5)))
	// A merger that has to be completed.
	merger := api.Merger{A: ups(up(at(0), greatest, 9, 1)), B: ups(up(at(0), 1, 9, 1))}
	// A sum that is too great from epoch 3 on, of a key that comes, and which the level of each batch hides.
	late := compact(t, insert(t, api.Spine{}, ups(up(at(0), greatest, 2, 1)), ups(up(at(1), 1, 2, 1))), at(3))
	return map[string][2]api.Spine{
		"inserting": {{Levels: []api.Level{{Class: 1, Busy: true, Merger: merger}}}, few},
		"a group":   {few, late},
		"both":      {{Levels: []api.Level{{Class: 1, Busy: true, Merger: merger}}}, late},
	}
}

// 12.2: with a sum of a spine that does not fit nothing is produced, nothing is inserted, and the time is the first one of the updates.
func TestStepOver(t *testing.T) {
	l := ups(up(at(7), 1, 2, 2))
	many := ups(up(at(7), 1, 1, 2), up(at(5, 2), 1, 3, 2), up(at(5, 1, 9), 1, 2, 2), up(at(6), 0, 2, 2), up(at(9), 1, 1, 1))
	for name, x := range overs(t) {
		for _, y := range []struct {
			l  []api.Update
			at api.Time
		}{{l, at(7)}, {many, at(5, 1, 9)}, {append(ups(up(at(4), 0, 1)), l...), at(4)}} {
			if name == "inserting" && len(y.l) > 3 {
				continue
			}
			a, b, made, when, why := join.Step(x[0], x[1], 0, y.l)
			want(t, name, of(made, when, why), failed(y.at))
			wantSpines(t, name, a, b, x[0], x[1])
			b, a, made, when, why = join.Step(x[1], x[0], 1, y.l)
			want(t, name+" at port 1", of(made, when, why), failed(y.at))
			wantSpines(t, name+" at port 1", a, b, x[0], x[1])
		}
	}
	// The sum of what comes, also only as it is advanced.
	right := insert(t, api.Spine{}, ups(up(at(0), 1, 1, 1)))
	for _, since := range [][]api.Time{nil, {at(3)}} {
		left := api.Spine{Since: since}
		a, b, made, when, why := join.Step(left, right, 0, ups(up(at(2), greatest, 1, 1), up(at(2), 1, 1, 1), up(at(1), 1, 1, 2)))
		want(t, "a sum of what comes", of(made, when, why), failed(at(1)))
		wantSpines(t, "a sum of what comes", a, b, left, right)
	}
	left := api.Spine{Since: []api.Time{at(3)}}
	a, b, made, when, why := join.Step(left, right, 0, ups(up(at(2), greatest, 1, 1), up(at(1), 1, 1, 1)))
	want(t, "a sum of what is advanced", of(made, when, why), failed(at(1)))
	wantSpines(t, "a sum of what is advanced", a, b, left, right)
	// Sums of keys that do not come do not matter, nor does a sum of the spine in which the updates come.
	late := overs(t)["a group"][1]
	step(t, "another key", api.Spine{}, late, 0, ups(up(at(7), 1, 1, 2)), fine())
	step(t, "the own spine", late, right, 0, ups(up(at(7), 1, 1, 2)), fine(bare(at(7), 1, row(2, 1))))
	step(t, "nothing of that key", late, late, 0, nil, fine())
}

// wrongSpines is spines that are not valid.
func wrongSpines() []api.Spine {
	l := ups(up(at(1), 1, 1, 1))
	level := api.Level{Class: 1, Batch: api.Batch{Updates: l}}
	return []api.Spine{
		{Since: []api.Time{at(1), at(2)}},
		{Since: []api.Time{at(maxNumber + 1)}},
		{Levels: []api.Level{{}}},
		{Levels: []api.Level{{Class: 2, Batch: level.Batch}}},
		{Levels: []api.Level{level, level}},
		{Levels: []api.Level{{Class: 1, Busy: true, Batch: level.Batch}}},
		{Levels: []api.Level{{Class: 1, Batch: api.Batch{Updates: ups(up(at(1), 0, 1, 1))}}}},
		{Levels: []api.Level{{Class: 1, Batch: api.Batch{Since: []api.Time{at(1)}, Updates: l}}}},
		{Levels: []api.Level{{Class: 1, Busy: true, Merger: api.Merger{A: l, B: l, I: 1, J: 1}}}},
	}
}

// 12.2: the errors come in their order: left, right, port, updates; and with one all else is zero.
func TestStepWrong(t *testing.T) {
	good := []api.Spine{{}, insert(t, api.Spine{}, ups(up(at(1), 1, 1, 1)))}
	bad := wrongSpines()
	lists := map[api.Errno][][]api.Update{api.OK: {nil, {}, ups(up(at(1), 1, 1, 1))}}
	for why, l := range wrong() {
		lists[why] = l
	}
	for _, s := range bad {
		if why := spine.Check(s); why != api.ErrState {
			t.Errorf("%s: error %d", plain(s), why)
		}
	}
	for _, left := range slices.Concat(good, bad) {
		for _, right := range slices.Concat(good, bad) {
			for _, port := range []int{math.MinInt, -1, 0, 1, 2, math.MaxInt} {
				for why, all := range lists {
					for _, l := range all {
						no := why
						if port < 0 || port > 1 {
							no = api.ErrRange
						}
						if spine.Check(left) != api.OK || spine.Check(right) != api.OK {
							no = api.ErrState
						}
						a, b, made, when, got := join.Step(left, right, port, l)
						if got != no {
							t.Fatalf("%s and %s, port %d, updates %s: error %d, want %d", plain(left), plain(right), port, show(l), got, no)
						}
						if no != api.OK && (!reflect.DeepEqual([]api.Spine{a, b}, []api.Spine{{}, {}}) || len(made) > 0 || when != at(0)) {
							t.Fatalf("error %d: %s, %s, %s, %d", no, plain(a), plain(b), show(made), when)
						}
					}
				}
			}
		}
	}
}
