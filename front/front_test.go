package front_test

import (
	"fmt"
	"math"
	"reflect"
	"slices"
	"testing"

	"freshet/api"
	"freshet/flow"
	"freshet/front"
	"freshet/spine"
)

// The limits are written out, as they are themselves part of what is tested.
const (
	maxNumber = 1 << 62
	greatest  = math.MaxInt64
	least     = math.MinInt64
)

// row has a number for each integer, and a text for each string.
func row(l ...any) []api.Value {
	var r []api.Value
	for _, x := range l {
		switch x := x.(type) {
		case int:
			r = append(r, api.Value{N: int64(x)})
		case string:
			r = append(r, api.Value{IsText: true, S: x})
		}
	}
	return r
}

func at(epoch uint64, rounds ...uint64) api.Time {
	t := api.Time{Epoch: epoch}
	copy(t.Loop[:], rounds)
	return t
}

// up is an update without a key.
func up(t api.Time, n int64, l ...any) api.Update {
	return api.Update{Row: row(l...), Time: t, Diff: n}
}

func keyed(key int, u api.Update) api.Update {
	u.Key = row(key)
	return u
}

func ups(l ...api.Update) []api.Update { return l }

func count(n int64, l ...any) api.Count { return api.Count{Row: row(l...), N: n} }

func source(n int) api.Plan   { return api.Plan{Kind: api.PlanSource, N: n} }
func variable(n int) api.Plan { return api.Plan{Kind: api.PlanVar, N: n} }
func negate(kid api.Plan) api.Plan {
	return api.Plan{Kind: api.PlanNegate, Kids: []api.Plan{kid}}
}
func concat(kids ...api.Plan) api.Plan { return api.Plan{Kind: api.PlanConcat, Kids: kids} }

func iterate(rounds int, a, b api.Plan) api.Plan {
	return api.Plan{Kind: api.PlanIterate, Kids: []api.Plan{a, b}, Rounds: rounds}
}

// hand is a flow made by hand, at which nothing waits: a NodeOut, and other nodes.
func hand(l ...api.Node) api.Flow {
	l = append([]api.Node{{Kind: api.NodeOut}}, l...)
	return api.Flow{Nodes: l, States: make([]api.State, len(l))}
}

// by is a node of a plan, which is without its Kids, that goes to the ports 0 of nodes.
func by(p api.Plan, nodes ...int) api.Node {
	p.Kids = nil
	n := api.Node{Kind: api.NodePlan, Plan: p}
	for _, i := range nodes {
		n.To = append(n.To, api.Port{Node: i})
	}
	return n
}

// put is a flow with updates that wait at port 0 of a node.
func put(f api.Flow, node int, l ...api.Update) api.Flow {
	f.States = slices.Clone(f.States)
	f.States[node].Waits[0] = l
	return f
}

// kept is a flow with a spine as the Left of a node.
func kept(f api.Flow, node int, s api.Spine) api.Flow {
	f.States = slices.Clone(f.States)
	f.States[node].Left = s
	return f
}

func failing(f api.Flow, epoch uint64) api.Flow {
	f.Failed, f.Fail = true, epoch
	return f
}

// insert is a spine with lists of updates, inserted one behind the other.
func insert(t *testing.T, since []api.Time, lists ...[]api.Update) api.Spine {
	t.Helper()
	s := api.Spine{Since: since}
	for _, l := range lists {
		c, why := spine.Insert(s, l)
		if why != api.OK {
			t.Fatalf("inserting %v: error %d", l, why)
		}
		s = c
	}
	return s
}

// over is a spine of which not all sums fit, from an epoch on.
func over(t *testing.T, epoch uint64) api.Spine {
	t.Helper()
	s := insert(t, nil, ups(up(at(epoch), greatest, 9)), ups(up(at(epoch), 1, 9)))
	if _, why := spine.All(s); why != api.ErrOver {
		t.Fatalf("all: error %d", why)
	}
	return s
}

// start is a flow of a plan of one source of a number, with updates that wait.
func start(t *testing.T, p api.Plan, l ...api.Update) api.Flow {
	t.Helper()
	f, why := flow.New(p, [][]api.Type{{api.TypeInt}})
	if why == api.OK {
		f, why = flow.Push(f, 0, l)
	}
	if why != api.OK {
		t.Fatalf("a flow of %+v: error %d", p, why)
	}
	return f
}

func settle(t *testing.T, f api.Flow) api.Flow {
	t.Helper()
	f, _, why := front.Settle(f)
	if why != api.OK {
		t.Fatalf("settling: error %d", why)
	}
	return f
}

func compact(t *testing.T, f api.Flow, epoch uint64) api.Flow {
	t.Helper()
	f, why := flow.Compact(f, epoch)
	if why != api.OK {
		t.Fatalf("compacting to %d: error %d", epoch, why)
	}
	return f
}

func show(l []api.Count) string {
	s := fmt.Sprint(len(l))
	for _, c := range l[:min(len(l), 20)] {
		s += fmt.Sprintf(" %v %d times,", c.Row, c.N)
	}
	return s
}

// same reports whether flows are the same, whether lists are nil or empty.
func same(f, g api.Flow) bool { return fmt.Sprintf("%+v", f) == fmt.Sprintf("%+v", g) }

func wantEnded(t *testing.T, name string, f api.Flow, epoch uint64, want bool) {
	t.Helper()
	if ok, why := front.Ended(f, epoch); ok != want || why != api.OK {
		t.Errorf("%s at %d: %t, error %d", name, epoch, ok, why)
	}
}

// wantDone holds how far a flow has progressed, and whether it has failed then.
func wantDone(t *testing.T, name string, f api.Flow, closed, want uint64, fail ...uint64) {
	t.Helper()
	g, n, why := front.Done(f, closed)
	w := f
	if len(fail) > 0 {
		w = failing(f, fail[0])
	}
	if n != want || why != api.OK || !same(g, w) {
		t.Errorf("%s, closed %d: progress %d, want %d; error %d; failed %t at %d, want %t at %d", name, closed, n, want, why, g.Failed, g.Fail, w.Failed, w.Fail)
	}
}

type call func(api.Flow, uint64, uint64) ([]api.Count, api.Errno)

func wantCounts(t *testing.T, name string, f api.Flow, ask call, closed, epoch uint64, no api.Errno, want ...api.Count) {
	t.Helper()
	if l, why := ask(f, closed, epoch); why != no || show(l) != show(want) {
		t.Errorf("%s, closed %d, at %d: %s, error %d; want %s, error %d", name, closed, epoch, show(l), why, show(want), no)
	}
}

// twice is a row that is there twice from epoch 1 on, and no longer from epoch 3 on.
func twice() []api.Update { return ups(up(at(1), 2, 5), up(at(3), -2, 5)) }

// The document's examples.
func TestExamples(t *testing.T) {
	f := start(t, negate(source(0)), twice()...)
	wantDone(t, "nothing was run", f, 9, 1)
	wantDone(t, "nothing is closed", f, 0, 0)
	g, n, why := front.Settle(f)
	if w, no := flow.Waits(g); n != 3 || why != api.OK || len(w) > 0 || no != api.OK {
		t.Errorf("%d sweeps, errors %d and %d, waiting at %d", n, why, no, w)
	}
	for epoch, want := range [][]api.Count{nil, {count(-2, 5)}, {count(-2, 5)}, nil} {
		wantCounts(t, "a negation", g, front.Peek, 4, uint64(epoch), api.OK, want...)
	}
	wantCounts(t, "a negation", g, front.Peek, 4, 4, api.ErrEarly)
	for epoch, want := range [][]api.Count{nil, {count(-2, 5)}, nil, {count(2, 5)}} {
		wantCounts(t, "a negation", g, front.Change, 4, uint64(epoch), api.OK, want...)
	}
	g = compact(t, g, 2)
	wantCounts(t, "compacted", g, front.Peek, 4, 1, api.ErrPast)
	wantCounts(t, "compacted", g, front.Change, 4, 2, api.ErrPast)

	p := iterate(3, source(0), negate(variable(0)))
	f = settle(t, start(t, p, up(at(2), 1, 5), up(at(4), -1, 5)))
	for epoch, ok := range []bool{true, true, false, false, true, true} {
		wantEnded(t, "a loop that negates", f, uint64(epoch), ok)
	}
	wantDone(t, "a loop that negates", f, 9, 2, 2)

	// Two epochs are closed, and an update of epoch 1 waits.
	wantDone(t, "an update waits", start(t, source(0), up(at(1), 1, 1)), 2, 1)
}

// wrong is flows that are not valid.
func wrong() map[string]api.Flow {
	f := hand(api.Node{Kind: api.NodeLeave, Rounds: 1}, api.Node{Kind: api.NodeSource, To: []api.Port{{Node: 1}}})
	level := api.Level{Class: 1, Batch: api.Batch{Updates: ups(up(at(1), 0, 1))}}
	less := f
	less.States = less.States[1:]
	fail := f
	fail.Fail = 1
	return map[string]api.Flow{
		"nothing":      {},
		"fewer states": less,
		"it may fail":  fail,
		"no node":      hand(api.Node{}),
		"a key":        put(f, 2, keyed(1, up(at(1), 1, 1))),
		"none":         put(f, 1, up(at(1), 0, 1)),
		"a spine":      kept(f, 1, api.Spine{Levels: []api.Level{level}}),
		"what is out":  kept(f, 0, api.Spine{Since: []api.Time{at(maxNumber + 1)}}),
	}
}

// 16.1 to 16.3: the error of flow.Check comes first, and all else is zero then.
func TestWrong(t *testing.T) {
	for name, f := range wrong() {
		if why := flow.Check(f); why != api.ErrState {
			t.Fatalf("%s is valid: error %d", name, why)
		}
		for _, epoch := range []uint64{0, 1, maxNumber + 1} {
			if ok, why := front.Ended(f, epoch); ok || why != api.ErrState {
				t.Errorf("%s, Ended: %t, error %d", name, ok, why)
			}
			if g, n, why := front.Done(f, epoch); !reflect.DeepEqual(g, api.Flow{}) || n != 0 || why != api.ErrState {
				t.Errorf("%s, Done: %d, error %d, %+v", name, n, why, g)
			}
			for _, closed := range []uint64{0, 9} {
				wantCounts(t, name, f, front.Peek, closed, epoch, api.ErrState)
				wantCounts(t, name, f, front.Change, closed, epoch, api.ErrState)
			}
		}
		for _, ask := range []func(api.Flow) (api.Flow, int, api.Errno){front.Sweep, front.Settle} {
			if g, n, why := ask(f); !reflect.DeepEqual(g, api.Flow{}) || n != 0 || why != api.ErrState {
				t.Errorf("%s: %d, error %d, %+v", name, n, why, g)
			}
		}
	}
}

// leaves is a flow with two nodes by which loops are left, and a node that keeps what it likes, too.
func leaves() api.Flow {
	n := api.Node{Kind: api.NodeLeave, Loop: 1, Rounds: 2}
	return hand(n, by(negate(source(0))), n)
}

// 16.1
func TestEnded(t *testing.T) {
	f := leaves()
	last := []uint64{0, 1, 7, maxNumber, maxNumber + 1, math.MaxUint64}
	for _, epoch := range last {
		wantEnded(t, "nothing is left", f, epoch, true)
		wantEnded(t, "none by which to leave", hand(), epoch, true)
		wantEnded(t, "others keep it", kept(kept(f, 0, over(t, 0)), 2, over(t, 0)), epoch, true)
	}
	for _, node := range []int{1, 3} {
		for name, l := range map[string][]api.Update{
			"one row":         {up(at(3), 1, 1)},
			"fewer":           {up(at(3), -1, 1)},
			"other rows":      {up(at(3), 1, 1), up(at(3), -1, 2), up(at(4), 1, 1, 1)},
			"other rounds":    {up(at(3, 1), 1, 1), up(at(3, 2), -1, 1)},
			"other keys":      {keyed(1, up(at(3), 1, 1)), keyed(2, up(at(3), -1, 1))},
			"more than fits":  {up(at(3), greatest, 1), up(at(4), greatest, 1), up(at(5), 2, 1)},
			"fewer than fits": {up(at(3), least, 1), up(at(6), least, 1)},
		} {
			g := kept(f, node, insert(t, nil, l))
			wantEnded(t, name, g, 0, true)
			wantEnded(t, name, g, 2, true)
			wantEnded(t, name, g, 3, false)
			for _, epoch := range last[2:] {
				wantEnded(t, name, g, epoch, false)
			}
		}
		g := kept(f, node, insert(t, nil, ups(up(at(3, 4), 2, 1), up(at(5, 4), -3, 1), up(at(6, 4), 1, 1)), ups(up(at(4), 1, 2), up(at(maxNumber), -1, 2))))
		for epoch, ok := range []bool{true, true, true, false, false, false, false, false} {
			wantEnded(t, "two rows", g, uint64(epoch), ok)
		}
		for i, epoch := range last {
			wantEnded(t, "at last", g, epoch, i < 2 || i > 2)
		}
		g = kept(f, node, insert(t, nil, ups(up(at(2), 1, 1), up(at(4), -1, 1), up(at(6), 5, 1))))
		for epoch, ok := range []bool{true, true, false, false, true, true, false, false} {
			wantEnded(t, "now and then", g, uint64(epoch), ok)
			// Of both nodes none may be left, though all of them together came to nothing.
			h := kept(g, 4-node, insert(t, nil, ups(up(at(2), -1, 1), up(at(4), 1, 1), up(at(5), -5, 1))))
			wantEnded(t, "both", h, uint64(epoch), ok && epoch != 5)
		}
		// What all comes to does not fit: it cannot be told at any epoch.
		g = kept(f, node, over(t, 5))
		for _, epoch := range last {
			wantEnded(t, "no sum", g, epoch, false)
		}
	}
}

// 16.1
func TestDone(t *testing.T) {
	f := leaves()
	for _, closed := range []uint64{0, 1, maxNumber, maxNumber + 1, math.MaxUint64} {
		wantDone(t, "nothing waits", f, closed, closed)
		wantDone(t, "something waits", put(f, 2, up(at(7, 1), 1, 1), up(at(5, 9), 1, 2)), closed, min(closed, 5))
		wantDone(t, "at two nodes", put(put(f, 2, up(at(7), 1, 1)), 0, up(at(3), 1, 1)), closed, min(closed, 3))
		wantDone(t, "at once", put(f, 1, up(at(0), 1, 1)), closed, 0)
		wantDone(t, "it failed", failing(f, 4), closed, min(closed, 4))
		wantDone(t, "it failed at once", failing(f, 0), closed, 0)
		wantDone(t, "it failed late", failing(f, math.MaxUint64), closed, closed)
		wantDone(t, "it failed, and something waits", failing(put(f, 2, up(at(5), 1, 2)), 6), closed, min(closed, 5))
		wantDone(t, "something waits, and it failed", failing(put(f, 2, up(at(5), 1, 2)), 4), closed, min(closed, 4))
		wantDone(t, "others keep it", kept(kept(f, 0, over(t, 0)), 2, over(t, 0)), closed, closed)
	}
	for _, node := range []int{1, 3} {
		g := kept(f, node, insert(t, nil, ups(up(at(3), 1, 1), up(at(5), -1, 1), up(at(7), 1, 1))))
		wantDone(t, "not so far", g, 2, 2)
		wantDone(t, "as far", g, 3, 3)
		wantDone(t, "farther", g, 4, 3, 3)
		wantDone(t, "very far", g, math.MaxUint64, 3, 3)
		wantDone(t, "it waits", put(g, 2, up(at(3), 1, 1)), 9, 3)
		wantDone(t, "it waits later", put(g, 2, up(at(4), 1, 1)), 9, 3, 3)
		wantDone(t, "it failed", failing(g, 3), 9, 3)
		wantDone(t, "it failed later", failing(g, 8), 9, 3, 3)
		wantDone(t, "it failed earlier", failing(g, 1), 9, 1)
		wantDone(t, "another one is earlier", kept(g, 4-node, insert(t, nil, ups(up(at(1), 1, 1)))), 9, 1, 1)
		wantDone(t, "another one is later", kept(g, 4-node, insert(t, nil, ups(up(at(4), 1, 1)))), 9, 3, 3)
		wantDone(t, "at once", kept(f, node, insert(t, nil, ups(up(at(0), 1, 1)))), 9, 0, 0)
		wantDone(t, "at once, and nothing is closed", kept(f, node, insert(t, nil, ups(up(at(0), 1, 1)))), 0, 0)
		wantDone(t, "at last", kept(f, node, insert(t, nil, ups(up(at(maxNumber), 1, 1)))), math.MaxUint64, maxNumber, maxNumber)
		wantDone(t, "no sum", kept(f, node, over(t, 5)), 9, 0, 0)
		wantDone(t, "no sum, and nothing is closed", kept(f, node, over(t, 5)), 0, 0)
		wantDone(t, "no sum behind another one", kept(kept(f, node, over(t, 5)), 4-node, insert(t, nil, ups(up(at(3), 1, 1)))), 9, 0, 0)

		// What is ahead of the first time of a Since is not told apart; the latest one of all leaves counts.
		l := ups(up(at(3), 1, 1), up(at(5), -1, 1), up(at(7), 1, 1))
		for i, want := range []uint64{3, 3, 3, 3, 4, 7, 7, 7} {
			since := []api.Time{at(uint64(i))}
			g := kept(f, node, insert(t, since, l))
			h := kept(kept(f, node, insert(t, nil, l)), 4-node, insert(t, since))
			wantDone(t, "compacted", g, 8, want, want)
			wantDone(t, "another one compacted", h, 8, want, want)
			wantDone(t, "closed where it is compacted to", g, since[0].Epoch, since[0].Epoch)
			wantDone(t, "closed where another one is", h, since[0].Epoch, since[0].Epoch)
		}
		wantDone(t, "to rounds", kept(f, node, insert(t, []api.Time{at(4, 1), at(6)}, l)), 9, 4, 4)
		wantDone(t, "others are compacted", kept(kept(g, 0, insert(t, []api.Time{at(6)})), 2, insert(t, []api.Time{at(6)})), 9, 3, 3)
		// At an epoch that is not told apart from others a sum may not fit.
		big := ups(up(at(1), greatest, 1), up(at(2), greatest, 1), up(at(3), 2, 1), up(at(4), least, 1), up(at(5), least, 1))
		wantDone(t, "great sums", kept(f, node, insert(t, nil, big)), 9, 1, 1)
		h := kept(f, node, insert(t, nil, big))
		wantDone(t, "great sums behind a Since", kept(h, 4-node, insert(t, []api.Time{at(3)})), 9, 3, 3)
		wantDone(t, "great sums that are over", kept(h, 4-node, insert(t, []api.Time{at(5)})), 9, 9)
	}
}
