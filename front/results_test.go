package front_test

import (
	"math"
	"slices"
	"testing"

	"freshet/api"
	"freshet/flow"
	"freshet/front"
	"freshet/graph"
)

// 16.2
func TestPeek(t *testing.T) {
	f := settle(t, start(t, source(0), up(at(1), 2, 5), up(at(3), -2, 5), up(at(2), 1, 4), up(at(maxNumber), 7, 6)))
	for closed := range uint64(6) {
		for epoch, want := range [][]api.Count{nil, {count(2, 5)}, {count(1, 4), count(2, 5)}, {count(1, 4)}, {count(1, 4)}, {count(1, 4)}} {
			no := api.OK
			if uint64(epoch) >= closed {
				want, no = nil, api.ErrEarly
			}
			wantCounts(t, "rows", f, front.Peek, closed, uint64(epoch), no, want...)
		}
	}
	wantCounts(t, "the last epoch", f, front.Peek, maxNumber+1, maxNumber, api.OK, count(1, 4), count(7, 6))
	wantCounts(t, "the last epoch", f, front.Peek, maxNumber, maxNumber, api.ErrEarly)
	wantCounts(t, "the one ahead of it", f, front.Peek, maxNumber, maxNumber-1, api.OK, count(1, 4))
	for _, epoch := range []uint64{maxNumber + 1, math.MaxUint64} {
		wantCounts(t, "no epoch", f, front.Peek, math.MaxUint64, epoch, api.ErrRange)
		wantCounts(t, "no epoch", f, front.Peek, 0, epoch, api.ErrRange)
	}
	// What waits, and what has failed, is not committed.
	wantCounts(t, "it waits", put(f, 0, up(at(3), 1, 5)), front.Peek, 9, 3, api.ErrEarly)
	wantCounts(t, "it waits", put(f, 0, up(at(3), 1, 5)), front.Peek, 9, 2, api.OK, count(1, 4), count(2, 5))
	wantCounts(t, "it failed", failing(f, 3), front.Peek, 9, 3, api.ErrFailed)
	wantCounts(t, "it failed", failing(f, 3), front.Peek, 9, 2, api.OK, count(1, 4), count(2, 5))
	wantCounts(t, "it failed at once", failing(f, 0), front.Peek, 9, 0, api.ErrFailed)
	// Rounds that are not those outside of loops, and keys.
	g := kept(hand(), 0, insert(t, nil, ups(up(at(1), 1, 1), up(at(1, 1), 1, 2), keyed(1, up(at(2), 1, 1)))))
	wantCounts(t, "keys", g, front.Peek, 9, 2, api.OK, count(2, 1))
}

// 16.2: the errors in their order.
func TestPeekErrors(t *testing.T) {
	n := api.Node{Kind: api.NodeLeave, Rounds: 2}
	f := kept(hand(n, by(negate(source(0)))), 0, insert(t, []api.Time{at(4)}, ups(up(at(4), greatest, 1), up(at(5), 1, 1), up(at(6), -9, 1))))
	for epoch, no := range []api.Errno{api.ErrPast, api.ErrPast, api.ErrPast, api.ErrPast, api.OK, api.ErrOver, api.OK, api.OK, api.ErrEarly} {
		var want []api.Count
		switch epoch {
		case 4:
			want = append(want, count(greatest, 1))
		case 6, 7:
			want = append(want, count(greatest-8, 1))
		}
		wantCounts(t, "now and then", f, front.Peek, 8, uint64(epoch), no, want...)
	}
	wantCounts(t, "early, and past", f, front.Peek, 3, 3, api.ErrEarly)
	wantCounts(t, "early, and over", f, front.Peek, 5, 5, api.ErrEarly)
	wantCounts(t, "failed, and past", failing(f, 3), front.Peek, 9, 3, api.ErrFailed)
	wantCounts(t, "past", failing(f, 3), front.Peek, 9, 2, api.ErrPast)
	wantCounts(t, "failed, and early", failing(f, 3), front.Peek, 1, 3, api.ErrFailed)
	wantCounts(t, "early, and failed later", failing(f, 3), front.Peek, 1, 2, api.ErrEarly)
	wantCounts(t, "early, and failed later", put(failing(f, 6), 2, up(at(5), 1, 1)), front.Peek, 9, 5, api.ErrEarly)
	wantCounts(t, "no epoch, and failed", failing(f, 0), front.Peek, 9, maxNumber+1, api.ErrRange)
	wantCounts(t, "failed, at the last epoch", failing(f, 0), front.Peek, 0, maxNumber, api.ErrFailed)

	// A loop that has not converged fails where it has not; but not where nothing is closed.
	g := kept(f, 1, insert(t, nil, ups(up(at(6), 1, 1))))
	wantCounts(t, "a loop", g, front.Peek, 9, 6, api.ErrFailed)
	wantCounts(t, "a loop", g, front.Peek, 9, 8, api.ErrFailed)
	wantCounts(t, "a loop", g, front.Peek, 9, 4, api.OK, count(greatest, 1))
	wantCounts(t, "a loop", g, front.Peek, 6, 6, api.ErrEarly)
	wantCounts(t, "a loop that failed later", failing(g, 7), front.Peek, 6, 6, api.ErrEarly)
	wantCounts(t, "a loop that failed later", failing(g, 7), front.Peek, 9, 6, api.ErrFailed)

	// A sum of what came out that does not fit, whatever epoch is asked for.
	g = kept(f, 0, over(t, 5))
	wantCounts(t, "no sum", g, front.Peek, 9, 0, api.ErrOver)
	wantCounts(t, "no sum", g, front.Peek, 9, 9, api.ErrEarly)
	// Of two times of a Since the first one counts.
	g = kept(f, 0, insert(t, []api.Time{at(4, 1), at(6)}, ups(up(at(6), 1, 1))))
	wantCounts(t, "two times", g, front.Peek, 9, 3, api.ErrPast)
	wantCounts(t, "two times", g, front.Peek, 9, 4, api.OK)
	// Another spine is no matter.
	g = settle(t, start(t, source(0), twice()...))
	g.States[0].Right, g.States[1].Left = insert(t, []api.Time{at(3)}), over(t, 0)
	wantCounts(t, "others are compacted", g, front.Peek, 9, 2, api.OK, count(2, 5))
	wantCounts(t, "others are compacted", g, front.Change, 9, 1, api.OK, count(2, 5))
}

// 16.2
func TestChange(t *testing.T) {
	f := settle(t, start(t, source(0), up(at(0), 1, 7), up(at(1), 2, 5), up(at(3), -2, 5), up(at(2), 1, 4), up(at(2), 1, 5), up(at(3), 4, 9), up(at(maxNumber), 7, 6)))
	for epoch, want := range [][]api.Count{{count(1, 7)}, {count(2, 5)}, {count(1, 4), count(1, 5)}, {count(-2, 5), count(4, 9)}, nil} {
		wantCounts(t, "rows", f, front.Change, 5, uint64(epoch), api.OK, want...)
	}
	wantCounts(t, "rows", f, front.Change, 5, 5, api.ErrEarly)
	wantCounts(t, "the last epoch", f, front.Change, maxNumber+1, maxNumber, api.OK, count(7, 6))
	wantCounts(t, "no epoch", f, front.Change, 0, maxNumber+1, api.ErrRange)
	wantCounts(t, "it failed", failing(f, 3), front.Change, 9, 3, api.ErrFailed)
	wantCounts(t, "it failed", failing(f, 3), front.Change, 9, 2, api.OK, count(1, 4), count(1, 5))
	wantCounts(t, "it waits", put(f, 0, up(at(3), 1, 5)), front.Change, 9, 3, api.ErrEarly)
	g := compact(t, f, 2)
	for epoch, no := range []api.Errno{api.ErrPast, api.ErrPast, api.ErrPast, api.OK} {
		var want []api.Count
		if no == api.OK {
			want = append(want, count(-2, 5), count(4, 9))
		}
		wantCounts(t, "compacted", g, front.Change, 9, uint64(epoch), no, want...)
	}
	// The result of epoch 0 is told from there on, also if that is what all is compacted to.
	g = compact(t, f, 0)
	wantCounts(t, "compacted to the first epoch", g, front.Change, 9, 0, api.OK, count(1, 7))
	wantCounts(t, "compacted to the first epoch", g, front.Change, 9, 1, api.OK, count(2, 5))
	wantCounts(t, "of an empty spine", compact(t, hand(), 3), front.Change, 9, 3, api.ErrPast)
	wantCounts(t, "of an empty spine", compact(t, hand(), 3), front.Change, 9, 4, api.OK)
}

// 16.2: numbers that do not fit.
func TestChangeOver(t *testing.T) {
	f := func(l ...api.Update) api.Flow { return kept(hand(), 0, insert(t, nil, l)) }
	hold := func(name string, f api.Flow, epoch uint64, no api.Errno, want ...api.Count) {
		t.Helper()
		wantCounts(t, name, f, front.Change, 9, epoch, no, want...)
	}
	hold("the least number", f(up(at(1), least, 1)), 1, api.OK, count(least, 1))
	hold("the least number at first", f(up(at(0), least, 1)), 0, api.OK, count(least, 1))
	hold("the least number before", f(up(at(1), least, 1)), 2, api.ErrOver)
	hold("one more", f(up(at(1), least, 1), up(at(2), 1, 1)), 2, api.ErrOver)
	hold("all of it is gone", f(up(at(1), least, 1), keyed(1, up(at(2), 1<<62, 1)), keyed(2, up(at(2), 1<<62, 1))), 2, api.ErrOver)
	hold("of another row", f(up(at(1), least, 1), up(at(2), 1, 2)), 2, api.ErrOver)
	hold("it is long ago", f(up(at(1), least, 1), up(at(2), 1, 1)), 3, api.OK)
	hold("the greatest number", f(up(at(1), greatest, 1), up(at(2), -greatest, 1)), 2, api.OK, count(-greatest, 1))
	hold("a great difference", f(up(at(1), greatest, 1), up(at(2), -greatest, 1), up(at(2, 0), -1, 2)), 2, api.OK, count(-greatest, 1), count(-1, 2))
	hold("too great a difference", f(up(at(1), 1<<62, 1), keyed(1, up(at(2), -1<<62, 1)), keyed(2, up(at(2), -1<<62, 1)), keyed(3, up(at(2), -1<<62, 1))), 2, api.ErrOver)
	hold("as great as may be", f(up(at(1), 1<<62, 1), keyed(1, up(at(2), -1<<62, 1)), keyed(2, up(at(2), -1<<62, 1))), 2, api.OK, count(least, 1))
	hold("no sum now", f(up(at(1), greatest, 1), up(at(2), 1, 1)), 2, api.ErrOver)
	hold("no sum before", f(up(at(1), greatest, 1), keyed(1, up(at(1), 1, 1)), up(at(2), -1, 1)), 2, api.ErrOver)
	hold("no sum at all", kept(hand(), 0, over(t, 5)), 3, api.ErrOver)
	// The error of Peek comes first.
	g := kept(hand(), 0, insert(t, []api.Time{at(2)}, ups(up(at(2), greatest, 1), up(at(2, 0), 1, 2)), ups(keyed(1, up(at(2), 1, 1)))))
	hold("over, and past", g, 2, api.ErrOver)
	hold("past", compact(t, f(up(at(1), least, 1)), 2), 2, api.ErrPast)
}

// 16.3
func TestSweep(t *testing.T) {
	// What is passed on to a node that is still to come is taken with the rest; what is passed on to others waits.
	f := hand(by(negate(source(0)), 2, 3), by(concat(source(0)), 1, 3, 0), by(concat(source(0)), 0), by(concat(source(0)), 3))
	u, v := up(at(1), 1, 1), up(at(2), 1, 2)
	want := put(put(put(f, 0, up(at(1), -1, 1), v), 1, up(at(1), -1, 1), v), 3, up(at(1), -2, 1), v)
	g, n, why := front.Sweep(put(put(f, 1, u), 2, v))
	if n != 2 || why != api.OK || !same(g, want) {
		t.Errorf("two nodes: %d, error %d, %+v", n, why, g.States)
	}
	g, n, why = front.Sweep(f)
	if n != 0 || why != api.OK || !same(g, f) {
		t.Errorf("none: %d, error %d, %+v", n, why, g.States)
	}
	// What waits at a node may come to nothing ahead of its turn.
	g, n, why = front.Sweep(put(put(f, 1, u), 2, u))
	if n != 2 || why != api.OK || !same(g, put(f, 3, up(at(1), -1, 1))) {
		t.Errorf("it came to nothing: %d, error %d, %+v", n, why, g.States)
	}
	// The nodes of a query, one behind the other.
	f = start(t, negate(negate(source(0))), twice()...)
	for sweep := range 5 {
		g, n, why := front.Sweep(f)
		if want := 1 - sweep/4; n != want || why != api.OK {
			t.Errorf("sweep %d: %d nodes, error %d", sweep, n, why)
		}
		if l, _ := flow.Waits(g); sweep < 3 && !slices.Equal(l, []int{2 - sweep}) || sweep >= 3 && len(l) > 0 {
			t.Errorf("sweep %d: waiting at %d", sweep, l)
		}
		f = g
	}
}

// 16.3
func TestSettle(t *testing.T) {
	hold := func(name string, f api.Flow, want int) api.Flow {
		t.Helper()
		g, n, why := front.Settle(f)
		w := f
		for range want {
			w, _, _ = front.Sweep(w)
		}
		if n != want || why != api.OK || !same(g, w) {
			t.Errorf("%s: %d sweeps, want %d; error %d", name, n, want, why)
		}
		return g
	}
	hold("nothing waits", hand(), 0)
	hold("a NodeOut", put(hand(), 0, up(at(1), 1, 1)), 1)
	hold("a source", start(t, source(0), twice()...), 2)
	hold("nothing of a source", start(t, source(0)), 0)
	g := hold("a negation", start(t, negate(source(0)), twice()...), 3)
	hold("it is settled", g, 0)
	hold("several ways", start(t, concat(negate(negate(source(0))), source(0)), twice()...), 5)
	hold("they come to nothing", start(t, concat(negate(source(0)), source(0)), twice()...), 4)
	x := variable(0)
	hold("a loop of no rows", start(t, iterate(4, source(0), x)), 0)
	for rounds := 1; rounds <= 16; rounds++ {
		// A round takes a sweep of the loop, and one of the negation; the last one leaves the loop, and comes out.
		hold("a loop", start(t, iterate(rounds, source(0), negate(x)), up(at(1), 1, 1)), 1+1+2*rounds+2)
	}
	// Nodes that lead in circles: no more sweeps than the bound, and one.
	for _, l := range [][]api.Node{
		{by(concat(source(0)), 1)},
		{by(concat(source(0)), 2, 0), by(negate(source(0)), 1)},
		{by(concat(source(0)), 1, 1)},
		{by(concat(source(0)), 1), {Kind: api.NodeLoop, Rounds: 16}, {Kind: api.NodeLoop, Rounds: 3}},
	} {
		f := put(hand(l...), 1, up(at(1), 1, 1))
		g := hold("a circle", f, graph.Bound(f.Nodes)+1)
		if w, _ := flow.Waits(g); len(w) == 0 {
			t.Error("a circle: nothing waits")
		}
	}
}
