package flow_test

import (
	"math"
	"slices"
	"testing"

	"freshet/api"
	"freshet/diff"
	"freshet/flow"
	"freshet/spine"
)

// 15.2
func TestPush(t *testing.T) {
	f := start(t, concat(source(0), source(1), source(0)))
	u, v := up(at(4), 1, 1), up(at(2, 3), 2, 2)
	g := push(t, f, 0, u, v, u)
	both := ups(up(at(4), 2, 1), v)
	wantFlow(t, "at two nodes", g, api.OK, put(put(f, 2, 0, both...), 4, 0, both...), api.OK)
	wantFlow(t, "at another one", push(t, f, 1, v), api.OK, put(f, 3, 0, v), api.OK)
	wantFlow(t, "no such source", push(t, f, 2, v), api.OK, f, api.OK)
	wantFlow(t, "no source at all", push(t, f, math.MaxInt, v), api.OK, f, api.OK)
	wantFlow(t, "nothing", push(t, g, 0), api.OK, g, api.OK)
	wantFlow(t, "no more of it", push(t, g, 0, up(at(4), 0, 1)), api.OK, g, api.OK)
	wantFlow(t, "as many fewer", push(t, g, 0, up(at(4), -2, 1), up(at(2, 3), -2, 2)), api.OK, f, api.OK)
	wantFlow(t, "more", push(t, g, 0, up(at(5), 1, 1), up(at(4), 1, 1)), api.OK, put(put(f, 2, 0, up(at(4), 3, 1), up(at(5), 1, 1), v), 4, 0, up(at(4), 3, 1), up(at(5), 1, 1), v), api.OK)
	wantFlow(t, "an empty key", push(t, f, 1, api.Update{Key: []api.Value{}, Row: row(1), Diff: 1}), api.OK, put(f, 3, 0, up(at(0), 1, 1)), api.OK)
	wantFlow(t, "any row", push(t, f, 1, up(at(0), 1, "a", 2)), api.OK, put(f, 3, 0, up(at(0), 1, "a", 2)), api.OK)
	wantFlow(t, "the limit", push(t, f, 1, up(at(maxNumber, maxNumber, maxNumber), 1)), api.OK, put(f, 3, 0, up(at(maxNumber, maxNumber, maxNumber), 1)), api.OK)
	wantFlow(t, "only together it fits", push(t, put(f, 3, 0, up(at(1), -1, 1)), 1, up(at(1), greatest, 1), up(at(1), 1, 1)), api.OK, put(f, 3, 0, up(at(1), greatest, 1)), api.OK)

	// 15.2: the errors come in their order, with a copy of the flow.
	late, wide := up(at(maxNumber+1), 1, 1), api.Update{Row: make([]api.Value, maxCols+1)}
	for _, x := range []struct {
		source int
		l      []api.Update
		want   api.Errno
	}{
		{-1, nil, api.ErrRange},
		{-1, ups(wide), api.ErrRange},
		{math.MinInt, ups(keyed(1, u)), api.ErrRange},
		{0, ups(late), api.ErrRange},
		{0, ups(keyed(1, u), late), api.ErrRange},
		{0, ups(late, wide), api.ErrRange},
		{0, ups(wide, late), api.ErrForm},
		{0, ups(keyed(1, u)), api.ErrForm},
		{0, ups(u, keyed(1, v)), api.ErrForm},
		{1, ups(keyed(1, up(at(1), 0, 1))), api.ErrForm},
		{9, ups(keyed(1, u)), api.ErrForm},
	} {
		h, why := flow.Push(g, x.source, x.l)
		wantFlow(t, show(x.l), h, why, g, x.want)
	}
}

// 15.2: sums that do not fit are failures, at the first epoch of what is pushed, and what was pushed is left out there.
func TestPushOver(t *testing.T) {
	f := start(t, concat(source(0), source(1), source(0)))
	f = put(f, 2, 0, up(at(7), greatest, 1))
	g := push(t, f, 0, up(at(8), 5, 2), up(at(7), 1, 1))
	want := put(f, 4, 0, up(at(7), 1, 1), up(at(8), 5, 2))
	want.Failed, want.Fail = true, 7
	wantFlow(t, "at one of two", g, api.OK, want, api.OK)
	wantFailed(t, "one that is earlier", push(t, f, 0, up(at(7), 1, 1), up(at(2, 9), 1, 2)), 2)
	wantFailed(t, "one that is none", push(t, f, 0, up(at(7), 1, 1), up(at(3), 0, 2)), 3)
	wantFailed(t, "not with what waits", push(t, f, 1, up(at(9), least, 1), up(at(9), -1, 1)), 9)
	wantFailed(t, "later", push(t, g, 1, up(at(9), least, 1), up(at(9), -1, 1)), 7)
	wantFailed(t, "earlier", push(t, g, 1, up(at(6), least, 1), up(at(6), -1, 1)), 6)
	wantFailed(t, "at once", push(t, g, 1, up(at(0), least, 1), up(at(0), -1, 1)), 0)
	wantFailed(t, "after that", push(t, push(t, g, 1, up(at(0), least, 1), up(at(0), -1, 1)), 0, up(at(7), 1, 1)), 0)
}

// ran holds a node that is run: what waits then, of all nodes by ports, and what is kept of it.
func ran(t *testing.T, name string, f api.Flow, node int, waits map[api.Port][]api.Update, left, right [][]api.Update, fail ...uint64) api.Flow {
	t.Helper()
	want := f
	want.States = slices.Clone(f.States)
	for i := range want.States {
		want.States[i].Waits = [2][]api.Update{}
	}
	for p, l := range waits {
		want.States[p.Node].Waits[p.Port] = slices.SortedFunc(slices.Values(l), diff.Compare)
	}
	s := &want.States[node]
	s.Left, s.Right = insert(t, s.Left, left...), insert(t, s.Right, right...)
	if len(fail) > 0 {
		want.Failed, want.Fail = true, fail[0]
	}
	g, why := flow.Run(f, node)
	wantFlow(t, name, g, why, want, api.OK)
	return g
}

type waits = map[api.Port][]api.Update

// port is port 0 of a node, or another one.
func port(node int, n ...int) api.Port {
	return to(append([]int{node}, append(n, 0)[:1]...)...)[0]
}

// lists is updates as one list that is kept.
func lists(l ...api.Update) [][]api.Update { return [][]api.Update{l} }

// 15.2: nodes that keep nothing.
func TestRun(t *testing.T) {
	a := source(0)
	f := hand(api.Node{Kind: api.NodeSource, N: 3, To: to(2, 0, 3, 0)}, by(negate(a), to(0, 0)...), by(concat(a), to(0, 0, 2, 0)...), by(filter(a, col(0)), to(3, 0)...), by(mapped(a, col(0)), to(2, 0)...))
	u, v := up(at(1), 2, 0), up(at(2, 1), -1, 5)
	for _, n := range []int{-1, 6, math.MaxInt, math.MinInt} {
		g, why := flow.Run(put(f, 1, 0, u), n)
		wantFlow(t, "no such node", g, why, put(f, 1, 0, u), api.ErrRange)
	}
	for n := range f.Nodes {
		ran(t, "nothing waits", f, n, nil, nil, nil)
	}
	ran(t, "a source", put(f, 1, 0, u, v), 1, waits{port(2): {u, v}, port(3): {u, v}}, nil, nil)
	more := up(at(2, 1), 4, 5)
	ran(t, "a source with what waits", put(put(f, 1, 0, u, v), 2, 0, up(at(1), -2, 0), more), 1, waits{port(2): {up(at(2, 1), 3, 5)}, port(3): {u, v}}, nil, nil)
	ran(t, "a negation", put(f, 2, 0, u, v), 2, waits{port(0): {up(at(1), -2, 0), up(at(2, 1), 1, 5)}}, nil, nil)
	ran(t, "a concatenation", put(f, 3, 0, u, v), 3, waits{port(0): {u, v}, port(2): {u, v}}, nil, nil)
	ran(t, "a filter", put(f, 4, 0, u, v), 4, waits{port(3): {v}}, nil, nil)
	ran(t, "a filter of nothing", put(f, 4, 0, u), 4, nil, nil, nil)
	ran(t, "a map", put(f, 5, 0, up(at(1), 2, 7, "a"), up(at(1), 2, 7, "b")), 5, waits{port(2): {up(at(1), 4, 7)}}, nil, nil)
	// Failures: those of the operator, with what it produces still.
	ran(t, "no value", put(f, 5, 0, up(at(3), 1), up(at(4), 1, 7)), 5, waits{port(2): {up(at(4), 1, 7)}}, nil, nil, 3)
	ran(t, "no number", put(f, 4, 0, up(at(6), 1), v), 4, waits{port(3): {v}}, nil, nil, 6)
	ran(t, "the least number", put(f, 2, 0, u, up(at(5), least, 1)), 2, waits{port(0): {up(at(1), -2, 0)}}, nil, nil, 5)
	ran(t, "a sum", put(f, 5, 0, u, up(at(8), 1, 7, "a"), up(at(9), greatest, 7, "a"), up(at(9), 1, 7, "b")), 5, waits{port(2): {u, up(at(8), 1, 7)}}, nil, nil, 9)
	// Where it cannot be passed on, it is left out; elsewhere it is not.
	full := up(at(2, 1), least, 5)
	ran(t, "no room", put(put(f, 3, 0, u, v), 2, 0, full), 3, waits{port(0): {u, v}, port(2): {full}}, nil, nil, 1)
	failed := put(put(f, 3, 0, v), 2, 0, full)
	failed.Failed, failed.Fail = true, 3
	ran(t, "an earlier failure", failed, 3, waits{port(0): {v}, port(2): {full}}, nil, nil, 2)
	failed.Fail = 1
	ran(t, "a later failure", failed, 3, waits{port(0): {v}, port(2): {full}}, nil, nil, 1)
	failed.Fail = 0
	ran(t, "a failure at once", failed, 3, waits{port(0): {v}, port(2): {full}}, nil, nil, 0)
}

// 15.2
func TestRunOut(t *testing.T) {
	f := hand(by(negate(source(0)), to(0, 0)...))
	f.Nodes[0].To = to(1, 0)
	u, v := up(at(1), 2, 0), up(at(2, 1), -1, 5)
	f = ran(t, "nothing is produced", put(f, 0, 0, u, v), 0, nil, lists(u, v), nil)
	f = ran(t, "more", put(f, 0, 0, up(at(1), -2, 0)), 0, nil, lists(up(at(1), -2, 0)), nil)
	f.States[0].Left = full(t)
	g := put(f, 0, 0, up(at(6), 1, 3), up(at(5, 9), 1, 4))
	ran(t, "what cannot be kept", g, 0, nil, nil, nil, 5)
}

// full is a spine into which nothing can be inserted.
func full(t *testing.T) api.Spine {
	t.Helper()
	m := api.Merger{A: ups(up(at(0), greatest, 9)), B: ups(up(at(0), 1, 9))}
	s := api.Spine{Levels: []api.Level{{Class: 2, Busy: true, Merger: api.Merger{A: append(m.A, up(at(0), 1, 10)), B: append(m.B, up(at(0), 1, 10))}}, {Class: 1, Busy: true, Merger: m}}}
	for n := range 2 {
		l := ups(up(at(7), 1, 3), up(at(7), 1, 4))[n:]
		if _, why := spine.Insert(s, l); why != api.ErrOver {
			t.Fatalf("inserting %s: error %d", show(l), why)
		}
	}
	return s
}

// 15.2
func TestRunJoin(t *testing.T) {
	a := source(0)
	f := hand(by(joined(a, a, []int{0}, []int{1}), to(0, 0)...), by(negate(a)))
	u, v, w := up(at(1), 2, 5, 6), up(at(3), 3, 6, 5), up(at(2, 4), -1, 7, 5)
	k := func(n int, u api.Update) api.Update { return keyed(n, u) }
	g := ran(t, "port 0", put(f, 1, 0, u), 1, nil, lists(k(5, u)), nil)
	g = ran(t, "port 1", put(g, 1, 1, v, w), 1, waits{port(0): {up(at(2, 4), -2, 5, 6, 7, 5), up(at(3), 6, 5, 6, 6, 5)}}, nil, lists(k(5, v), k(5, w)))
	ran(t, "port 0 again", put(put(g, 0, 0), 1, 0, up(at(0), 1, 5, 9), up(at(0), 1, 6, 9)), 1, waits{port(0): {up(at(2, 4), -1, 5, 9, 7, 5), up(at(3), 3, 5, 9, 6, 5)}}, lists(k(5, up(at(0), 1, 5, 9)), k(6, up(at(0), 1, 6, 9))), nil)
	// Each pair of what waits at both ports is there once.
	ran(t, "both ports", put(put(f, 1, 0, u), 1, 1, v), 1, waits{port(0): {up(at(3), 6, 5, 6, 6, 5)}}, lists(k(5, u)), lists(k(5, v)))
	// Without a column nothing is done at that port; with one that is too long, or a product that does not fit, the rest is.
	ran(t, "no column at port 1", put(put(f, 1, 0, u), 1, 1, up(at(9), 1, 1, 2), up(at(8), 1, 3)), 1, nil, lists(k(5, u)), nil, 8)
	ran(t, "no column at port 0", put(put(f, 1, 0, up(at(8), 1), up(at(7), 1, 3)), 1, 1, v), 1, nil, nil, lists(k(5, v)), 7)
	h := put(put(f, 1, 0, up(at(1), 1<<40, 5, 6), up(at(0), 1, 5, 7)), 1, 1, up(at(4), 1<<40, 6, 5))
	ran(t, "a product", h, 1, waits{port(0): {up(at(4), 1<<40, 5, 7, 6, 5)}}, lists(k(5, up(at(1), 1<<40, 5, 6)), k(5, up(at(0), 1, 5, 7))), lists(k(5, up(at(4), 1<<40, 6, 5))), 4)
	f.Nodes[1].Plan.Cols = make([]int, maxCols+1)
	ran(t, "too many columns", put(f, 1, 0, u, up(at(0, 3), 1, 9)), 1, nil, nil, nil, 0)
	// A spine that is full: nothing is produced, nothing is kept.
	f = hand(by(joined(a, a, nil, nil), to(0, 0)...))
	f.States[1].Left, f.States[1].Right = full(t), insert(t, api.Spine{}, ups(u))
	ran(t, "a full spine", put(f, 1, 0, up(at(6), 1, 3), up(at(5, 9), 1, 4)), 1, nil, nil, nil, 5)
}

// 15.2: what port 0 passes on to the node itself is there when port 1 has its turn; what port 1 passes on waits.
func TestRunItself(t *testing.T) {
	a := source(0)
	f := hand(by(joined(a, a, nil, nil), to(1, 1)...))
	one := insert(t, api.Spine{}, ups(up(at(0), 1, 1)))
	f.States[1].Right = one
	u, v := up(at(2), 1, 2), up(at(3), 1, 3)
	ran(t, "port 0 alone", put(f, 1, 0, u), 1, waits{port(1, 1): {up(at(2), 1, 2, 2, 1)}}, lists(u), lists(up(at(2), 1, 2, 1)))
	ran(t, "both", put(put(f, 1, 0, u), 1, 1, v), 1, waits{port(1, 1): {up(at(2), 1, 2, 2, 1), up(at(3), 1, 2, 3)}}, lists(u), lists(up(at(2), 1, 2, 1), v))
	f.Nodes[1].To = to(1, 0)
	ran(t, "from port 0 to port 0", put(f, 1, 0, u), 1, waits{port(1): {up(at(2), 1, 2, 1)}}, lists(u), nil)
	f.States[1].Left = one
	ran(t, "from both to port 0", put(put(f, 1, 0, u), 1, 1, v), 1, waits{port(1): {up(at(3), 1, 1, 3), up(at(2), 1, 2, 1), up(at(3), 1, 2, 3)}}, lists(u), lists(v))

	f = hand(api.Node{Kind: api.NodeLoop, Rounds: 3, To: to(0, 0), Back: to(1, 1)})
	ran(t, "a loop", put(f, 1, 0, u), 1, waits{port(0): {up(at(2), 1, 2), up(at(2, 2), -1, 2)}, port(1, 1): {up(at(2, 1), 1, 2), up(at(2, 2), -1, 2)}}, nil, nil)
	f = hand(by(negate(a), to(1, 0)...))
	ran(t, "in a circle", put(f, 1, 0, u), 1, waits{port(1): {up(at(2), -1, 2)}}, nil, nil)
}

// 15.2
func TestRunGroup(t *testing.T) {
	a := source(0)
	f := hand(by(reduce(a, api.AggSum, 1, 0), to(0, 0)...), by(distinct(a), to(0, 0)...))
	k := func(n int, u api.Update) api.Update { return keyed(n, u) }
	u, v := up(at(1), 2, 5, 6), up(at(3), -1, 5, 7)
	g := ran(t, "a sum", put(f, 1, 0, u, v), 1, waits{port(0): {up(at(3), 1, 5, 5), up(at(1), 1, 5, 12), up(at(3), -1, 5, 12)}}, lists(k(5, u), k(5, v)), nil)
	ran(t, "another one", put(put(g, 0, 0), 1, 0, up(at(1), 1, 4, 1), up(at(3), 1, 5, 7)), 1, waits{port(0): {up(at(1), 1, 4, 1), up(at(3), -1, 5, 5), up(at(3), 1, 5, 12)}}, lists(k(4, up(at(1), 1, 4, 1)), k(5, up(at(3), 1, 5, 7))), nil)
	g = ran(t, "rows once", put(f, 2, 0, u, v), 2, waits{port(0): {up(at(1), 1, 5, 6)}}, lists(api.Update{Key: u.Row, Row: u.Row, Time: u.Time, Diff: u.Diff}, api.Update{Key: v.Row, Row: v.Row, Time: v.Time, Diff: v.Diff}), nil)
	ran(t, "fewer of them", put(put(g, 0, 0), 2, 0, up(at(2), -2, 5, 6)), 2, waits{port(0): {up(at(2), -1, 5, 6)}}, lists(api.Update{Key: u.Row, Row: u.Row, Time: at(2), Diff: -2}), nil)
	// A failure of a group; what is before it, and another group, is produced.
	big := ups(up(at(1), 1, 5, 1<<62), up(at(3), 1, 5, 1<<62+1), up(at(2), 1, 6, 1))
	ran(t, "a great sum", put(f, 1, 0, big...), 1, waits{port(0): {up(at(1), 1, 5, 1<<62), up(at(2), 1, 6, 1)}}, lists(k(5, big[0]), k(5, big[1]), k(6, big[2])), nil, 3)
	// Rows that do not fit: nothing is done.
	ran(t, "no column", put(f, 1, 0, up(at(7), 1), up(at(6), 1, 1, 1)), 1, nil, nil, nil, 6)
	ran(t, "no value", put(f, 1, 0, up(at(7), 1, 1), up(at(8), 1, 1, 1)), 1, nil, nil, nil, 7)
	ran(t, "a text", put(f, 1, 0, up(at(8), 1, 1, 1), up(at(7), 1, 1, "a")), 1, nil, nil, nil, 7)
	f.States[1].Left = insert(t, api.Spine{}, ups(k(1, up(at(0), 1, 1))))
	ran(t, "no value in the spine", put(f, 1, 0, up(at(9), 1, 1, 1), up(at(7, 7), 1, 2, 2)), 1, nil, nil, nil, 7)
	ran(t, "but of another group", put(f, 1, 0, up(at(7, 7), 1, 2, 2)), 1, waits{port(0): {up(at(7, 7), 1, 2, 2)}}, lists(k(2, up(at(7, 7), 1, 2, 2))), nil)
	for _, p := range []api.Plan{reduce(a, api.AggTop, 0), reduce(a, api.AggTop, 9), reduce(a, api.AggCount, 0, 0, 0, 0, 0, 0, 0, 0, 0, 0), reduce(a, api.AggMin, -1)} {
		f := hand(by(p, to(0, 0)...))
		f.States[1].Left = insert(t, api.Spine{}, ups(u))
		ran(t, "what cannot be told", put(f, 1, 0, up(at(4), 1, 1), up(at(3), 1, 2)), 1, nil, nil, nil, 3)
		ran(t, "nothing of it", f, 1, nil, nil, nil)
	}
	for _, p := range []api.Plan{reduce(a, api.AggCount, 0), distinct(a)} {
		f := hand(by(p, to(0, 0)...))
		f.States[1].Left = full(t)
		ran(t, "a full spine", put(f, 1, 0, up(at(6), 1, 3), up(at(5, 9), 1, 4)), 1, nil, nil, nil, 5)
	}
}

// 15.2
func TestRunLoop(t *testing.T) {
	f := hand(api.Node{Kind: api.NodeLoop, Loop: 1, Rounds: 2, To: to(2, 0), Back: to(3, 0)}, by(concat(source(0))), by(concat(source(0))))
	u, v := up(at(1, 7), 2, 1), up(at(1, 7, 2), -1, 1)
	ran(t, "it begins", put(f, 1, 0, u, v), 1, waits{
		port(2): {u, up(at(1, 7, 1), -2, 1), v, up(at(1, 7, 3), 1, 1)},
		port(3): {u, up(at(1, 7, 1), -2, 1)},
	}, nil, nil)
	ran(t, "it goes on", put(f, 1, 1, u, up(at(1, 7, 1), 5, 1), v), 1, waits{
		port(2): {up(at(1, 7, 1), 2, 1), up(at(1, 7, 2), 5, 1)},
		port(3): {up(at(1, 7, 1), 2, 1)},
	}, nil, nil)
	ran(t, "both", put(put(f, 1, 0, u), 1, 1, u), 1, waits{port(2): {u}, port(3): {u}}, nil, nil)
	ran(t, "the last round", put(f, 1, 1, v, up(at(0, 0, maxNumber), 1, 2)), 1, nil, nil, nil)
	// An update of which there is no end is there still.
	ran(t, "the least number", put(f, 1, 0, u, up(at(3), least, 2)), 1, waits{
		port(2): {u, up(at(1, 7, 1), -2, 1), up(at(3), least, 2)},
		port(3): {u, up(at(1, 7, 1), -2, 1), up(at(3), least, 2)},
	}, nil, nil, 3)
	last := up(at(4, 0, maxNumber), 1, 2)
	ran(t, "no next round", put(f, 1, 0, u, last), 1, waits{port(2): {u, up(at(1, 7, 1), -2, 1), last}, port(3): {u, up(at(1, 7, 1), -2, 1)}}, nil, nil, 4)
	// To and Back are passed on to one by one.
	g := put(put(f, 1, 0, up(at(6), 1, 0), v), 3, 0, up(at(6), greatest, 0))
	ran(t, "no way back", g, 1, waits{
		port(2): {up(at(6), 1, 0), up(at(6, 0, 1), -1, 0), v, up(at(1, 7, 3), 1, 1)},
		port(3): {up(at(6), greatest, 0)},
	}, nil, nil, 6)
	g = put(put(f, 1, 0, up(at(6), 1, 0), v), 2, 0, up(at(6), greatest, 0))
	ran(t, "no way on", g, 1, waits{
		port(2): {up(at(6), greatest, 0)},
		port(3): {up(at(6), 1, 0), up(at(6, 0, 1), -1, 0)},
	}, nil, nil, 1)
	f.Nodes[1].Back = to(2, 0, 3, 0, 3, 0)
	ran(t, "several ways back", put(f, 1, 1, u), 1, waits{port(2): {up(at(1, 7, 1), 4, 1)}, port(3): {up(at(1, 7, 1), 4, 1)}}, nil, nil)
	f.Nodes[1].Loop = 0
	ran(t, "the outer loop", put(f, 1, 1, up(at(1, 0, 9), 2, 1), up(at(1, 1, 9), 3, 1)), 1, waits{port(2): {up(at(1, 1, 9), 4, 1), up(at(1, 2, 9), 3, 1)}, port(3): {up(at(1, 1, 9), 4, 1)}}, nil, nil)
}

// 15.2
func TestRunLeave(t *testing.T) {
	f := hand(api.Node{Kind: api.NodeLeave, Rounds: 3, To: to(0, 0, 2, 0)}, by(concat(source(0))))
	u, v, w := up(at(1, 2, 6), 2, 1), up(at(1, 3, 6), -2, 1), up(at(2, 4, 5), 1, 1)
	x := up(at(2, 0, 5), 1, 1)
	f = ran(t, "as many", put(f, 1, 0, u, v, w), 1, waits{port(0): {x}, port(2): {x}}, lists(up(at(1, 0, 6), -2, 1)), nil)
	y := up(at(1, 0, 6), 7, 1)
	ran(t, "no others", put(put(put(f, 0, 0), 2, 0), 1, 0, up(at(1, 3, 6), 7, 1)), 1, waits{port(0): {y}, port(2): {y}}, lists(y), nil)
	ran(t, "none of the last round", put(put(put(f, 0, 0), 2, 0), 1, 0, u), 1, waits{port(0): {up(at(1, 0, 6), 2, 1)}, port(2): {up(at(1, 0, 6), 2, 1)}}, nil, nil)
	z := ups(up(at(1), 1, 0), up(at(5, 1), greatest, 1), up(at(5, 3), 1, 1))
	f = put(put(f, 0, 0), 2, 0)
	ran(t, "a sum", put(f, 1, 0, z...), 1, waits{port(0): {z[0]}, port(2): {z[0]}}, lists(up(at(5), 1, 1)), nil, 5)
	// What cannot be kept leaves the loop still; the failure is at the first of all times.
	f.States[1].Left = full(t)
	ran(t, "a full spine", put(f, 1, 0, up(at(6, 3), 1, 3), up(at(5, 1), 1, 4)), 1, waits{port(0): {up(at(6), 1, 3), up(at(5), 1, 4)}, port(2): {up(at(6), 1, 3), up(at(5), 1, 4)}}, nil, nil, 5)
	ran(t, "nothing for it", put(f, 1, 0, up(at(5, 1), 1, 4)), 1, waits{port(0): {up(at(5), 1, 4)}, port(2): {up(at(5), 1, 4)}}, nil, nil)
	f = hand(api.Node{Kind: api.NodeLeave, Loop: 1, Rounds: 3, To: to(0, 0)})
	ran(t, "the inner loop", put(f, 1, 0, up(at(1, 3, 3), 2, 1)), 1, waits{port(0): {up(at(1, 3), 2, 1)}}, lists(up(at(1, 3), 2, 1)), nil)
}
