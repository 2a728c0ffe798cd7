package flow_test

import (
	"fmt"
	"math"
	"reflect"
	"slices"
	"strings"
	"testing"

	"freshet/api"
	"freshet/diff"
	"freshet/flow"
	"freshet/graph"
	"freshet/spine"
)

// The limits are written out, as they are themselves part of what is tested.
const (
	maxCols   = 8
	maxText   = 64
	maxRounds = 16
	maxNumber = 1 << 62
)

const (
	greatest = math.MaxInt64
	least    = math.MinInt64
)

// row has a number for each integer, and a text for each string.
func row(l ...any) []api.Value {
	var r []api.Value
	for _, x := range l {
		switch x := x.(type) {
		case int:
			r = append(r, api.Value{N: int64(x)})
		case string:
			r = append(r, api.Value{IsText: true, S: x})
		}
	}
	return r
}

func at(epoch uint64, rounds ...uint64) api.Time {
	t := api.Time{Epoch: epoch}
	copy(t.Loop[:], rounds)
	return t
}

// up is an update without a key.
func up(t api.Time, n int64, l ...any) api.Update {
	return api.Update{Row: row(l...), Time: t, Diff: n}
}

// keyed is an update with a key of one number.
func keyed(key int, u api.Update) api.Update {
	u.Key = row(key)
	return u
}

func ups(l ...api.Update) []api.Update { return l }

func source(n int) api.Plan   { return api.Plan{Kind: api.PlanSource, N: n} }
func variable(n int) api.Plan { return api.Plan{Kind: api.PlanVar, N: n} }

func mapped(kid api.Plan, exprs ...api.Expr) api.Plan {
	return api.Plan{Kind: api.PlanMap, Kids: []api.Plan{kid}, Exprs: exprs}
}

func filter(kid api.Plan, e api.Expr) api.Plan {
	return api.Plan{Kind: api.PlanFilter, Kids: []api.Plan{kid}, Exprs: []api.Expr{e}}
}

func concat(kids ...api.Plan) api.Plan { return api.Plan{Kind: api.PlanConcat, Kids: kids} }
func negate(kid api.Plan) api.Plan     { return api.Plan{Kind: api.PlanNegate, Kids: []api.Plan{kid}} }
func distinct(kid api.Plan) api.Plan   { return api.Plan{Kind: api.PlanDistinct, Kids: []api.Plan{kid}} }

func joined(a, b api.Plan, cols, with []int) api.Plan {
	return api.Plan{Kind: api.PlanJoin, Kids: []api.Plan{a, b}, Cols: cols, With: with}
}

func reduce(kid api.Plan, agg api.AggKind, n int, cols ...int) api.Plan {
	return api.Plan{Kind: api.PlanReduce, Kids: []api.Plan{kid}, Agg: agg, N: n, Cols: cols}
}

func iterate(rounds int, a, b api.Plan) api.Plan {
	return api.Plan{Kind: api.PlanIterate, Kids: []api.Plan{a, b}, Rounds: rounds}
}

func col(i int) api.Expr { return api.Expr{Op: api.ExprCol, Col: i} }

func con(n int) api.Expr { return api.Expr{Op: api.ExprConst, Const: api.Value{N: int64(n)}} }

func op(o api.ExprOp, kids ...api.Expr) api.Expr { return api.Expr{Op: o, Kids: kids} }

func to(l ...int) []api.Port {
	var ports []api.Port
	for i := 0; i < len(l); i += 2 {
		ports = append(ports, api.Port{Node: l[i], Port: l[i+1]})
	}
	return ports
}

// by is a node of a plan, which is without its Kids.
func by(p api.Plan, to ...api.Port) api.Node {
	p.Kids = nil
	return api.Node{Kind: api.NodePlan, Plan: p, To: to}
}

// hand is a flow made by hand, at which nothing waits: a NodeOut, and other nodes.
func hand(l ...api.Node) api.Flow {
	l = append([]api.Node{{Kind: api.NodeOut}}, l...)
	return api.Flow{Nodes: l, States: make([]api.State, len(l))}
}

// put is a flow with updates that wait at a port.
func put(f api.Flow, node, port int, l ...api.Update) api.Flow {
	f.States = slices.Clone(f.States)
	f.States[node].Waits[port] = l
	return f
}

// schemas is those of sources of one number each.
func schemas(n int) [][]api.Type {
	var l [][]api.Type
	for range n {
		l = append(l, []api.Type{api.TypeInt})
	}
	return l
}

// start is a flow of a plan of sources of one number each.
func start(t *testing.T, p api.Plan) api.Flow {
	t.Helper()
	f, why := flow.New(p, schemas(8))
	if why != api.OK {
		t.Fatalf("a flow of %+v: error %d", p, why)
	}
	return f
}

func push(t *testing.T, f api.Flow, source int, l ...api.Update) api.Flow {
	t.Helper()
	g, why := flow.Push(f, source, l)
	if why != api.OK {
		t.Fatalf("pushing %s: error %d", show(l), why)
	}
	return g
}

// run runs nodes one behind the other.
func run(t *testing.T, f api.Flow, nodes ...int) api.Flow {
	t.Helper()
	for _, n := range nodes {
		g, why := flow.Run(f, n)
		if why != api.OK {
			t.Fatalf("running %d of %s: error %d", n, plain(f), why)
		}
		f = g
	}
	return f
}

// insert is a spine with lists of updates, inserted one behind the other.
func insert(t *testing.T, s api.Spine, lists ...[]api.Update) api.Spine {
	t.Helper()
	for _, l := range lists {
		c, why := spine.Insert(s, l)
		if why != api.OK {
			t.Fatalf("inserting %s: error %d", show(l), why)
		}
		s = c
	}
	return s
}

func showRow(r []api.Value) string {
	s := ""
	for _, v := range r {
		s += fmt.Sprintf(" %d", v.N)
		if v.IsText || v.S != "" {
			s += fmt.Sprintf("/%t/%.9q", v.IsText, v.S)
		}
	}
	return s
}

func show(l []api.Update) string {
	var s []string
	for _, u := range l[:min(len(l), 20)] {
		s = append(s, fmt.Sprintf("(%s;%s) %d at %d", showRow(u.Key), showRow(u.Row), u.Diff, u.Time))
	}
	return fmt.Sprintf("%d %s", len(l), s)
}

func showSpine(s api.Spine) string {
	t := fmt.Sprintf("since %d:", slices.Clone(s.Since))
	for _, l := range s.Levels {
		m := l.Merger
		t += fmt.Sprintf(" class %d, %t, %d %s; %s and %s, %d %d %d, %s.", l.Class, l.Busy, l.Batch.Since, show(l.Batch.Updates), show(m.A), show(m.B), m.I, m.J, m.Since, show(m.Out))
	}
	return t
}

// plain is a flow without the difference of nil and empty lists.
func plain(f api.Flow) string {
	s := fmt.Sprintf("failed %t, %d", f.Failed, f.Fail)
	for i, n := range f.Nodes {
		p := n.Plan
		s += fmt.Sprintf("\n%d: kind %d, N %d, loop %d of %d, to %d, back %d, plan %d %d %d %+v %d %d %d %d", i, n.Kind, n.N, n.Loop, n.Rounds, n.To, n.Back, p.Kind, p.N, len(p.Kids), p.Exprs, p.Cols, p.With, p.Agg, p.Rounds)
	}
	for i, x := range f.States {
		s += fmt.Sprintf("\n%d: port 0 %s, port 1 %s\n  left %s\n  right %s", i, show(x.Waits[0]), show(x.Waits[1]), showSpine(x.Left), showSpine(x.Right))
	}
	return s
}

func wantFlow(t *testing.T, name string, got api.Flow, why api.Errno, want api.Flow, no api.Errno) {
	t.Helper()
	if g, w := plain(got), plain(want); g != w || why != no {
		t.Errorf("%s:\n%s\nerror %d; want\n%s\nerror %d", name, g, why, w, no)
	}
}

func wantUpdates(t *testing.T, name string, l []api.Update, want ...api.Update) {
	t.Helper()
	slices.SortFunc(want, diff.Compare)
	if g, w := show(l), show(want); g != w {
		t.Errorf("%s: %s; want %s", name, g, w)
	}
}

// wantFailed holds whether a flow failed, and when.
func wantFailed(t *testing.T, name string, f api.Flow, epochs ...uint64) {
	t.Helper()
	epochs = append(epochs, 0)
	if f.Failed != (len(epochs) > 1) || f.Fail != epochs[0] {
		t.Errorf("%s: failed %t at %d, want %d", name, f.Failed, f.Fail, epochs)
	}
}

// The document's examples.
func TestExamples(t *testing.T) {
	f := push(t, start(t, negate(source(0))), 0, up(at(3), 1, 5))
	if l, why := flow.Waits(f); !slices.Equal(l, []int{2}) || why != api.OK {
		t.Errorf("waiting at %d, error %d", l, why)
	}
	f = run(t, f, 2, 1, 0)
	l, why := flow.Out(f)
	wantUpdates(t, "a negation", l, up(at(3), -1, 5))
	if w, _ := flow.Waits(f); why != api.OK || len(w) > 0 {
		t.Errorf("waiting at %d, error %d", w, why)
	}

	f = push(t, start(t, source(0)), 0, up(at(7), greatest, 1))
	wantFailed(t, "the greatest number", f)
	wantFailed(t, "and one", push(t, f, 0, up(at(7), 1, 1)), 7)
	if g, why := flow.Push(f, 0, ups(keyed(1, up(at(7), 1, 1)))); plain(g) != plain(f) || why != api.ErrForm {
		t.Errorf("with a key: %s, error %d", plain(g), why)
	}
	if g, why := flow.Run(f, -1); plain(g) != plain(f) || why != api.ErrRange {
		t.Errorf("no node: %s, error %d", plain(g), why)
	}
	f, why = flow.Compact(f, 2)
	if g, no := flow.Compact(f, 1); plain(g) != plain(f) || why != api.OK || no != api.ErrRange {
		t.Errorf("compacted: errors %d and %d", why, no)
	}
}

// 15.3: the document's example, in any order of the nodes.
func TestCountExample(t *testing.T) {
	for seed := range 50 {
		c := chance(seed + 1)
		f := start(t, reduce(concat(source(0), source(0)), api.AggCount, 0))
		for e := range 4 {
			f = push(t, f, 0, up(at(uint64(e)), 1, e))
			for range c.below(6) {
				f = run(t, f, c.below(len(f.Nodes)))
			}
		}
		f = settle(t, &c, f)
		for e := range 4 {
			l, why := flow.Out(f)
			have, no := diff.At(l, at(uint64(e)))
			if len(have) != 1 || have[0].N != 1 || !slices.Equal(have[0].Row, row(2*e+2)) || why != api.OK || no != api.OK {
				t.Errorf("at %d: %v, errors %d and %d", e, have, why, no)
			}
		}
	}
}

// plans is one of each kind, at least, of sources of one number each.
func plans() map[string]api.Plan {
	a, x := source(0), variable(0)
	return map[string]api.Plan{
		"a source":        a,
		"another source":  source(7),
		"a map":           mapped(a, op(api.ExprAdd, col(0), con(1))),
		"a filter":        filter(a, col(0)),
		"a concatenation": concat(a, source(1), a),
		"a negation":      negate(a),
		"a join":          joined(a, source(1), []int{0}, []int{0}),
		"a reduction":     reduce(a, api.AggMax, 0, 0),
		"rows once":       distinct(a),
		"a loop":          iterate(4, a, concat(x, x)),
		"a loop of none":  iterate(16, a, x),
		"loops":           iterate(3, a, iterate(2, x, negate(variable(1)))),
	}
}

// 15.1
func TestNew(t *testing.T) {
	for name, p := range plans() {
		f, why := flow.New(p, schemas(8))
		l, no := graph.Build(p, schemas(8))
		wantFlow(t, name, f, why, api.Flow{Nodes: l, States: make([]api.State, len(l))}, no)
		if why := flow.Check(f); why != api.OK {
			t.Errorf("%s is not valid: error %d", name, why)
		}
		if w, why := flow.Waits(f); len(w) > 0 || why != api.OK {
			t.Errorf("%s: waiting at %d, error %d", name, w, why)
		}
	}
	for _, x := range []struct {
		plan    api.Plan
		sources [][]api.Type
		want    api.Errno
	}{
		{api.Plan{}, schemas(1), api.ErrForm},
		{source(0), [][]api.Type{{api.TypeNone}}, api.ErrForm},
		{source(0), schemas(9), api.ErrForm},
		{source(1), schemas(1), api.ErrRange},
		{variable(0), schemas(1), api.ErrRange},
		{reduce(source(0), api.AggTop, 9), schemas(1), api.ErrRange},
		{concat(source(0), source(1)), [][]api.Type{{api.TypeInt}, {api.TypeText}}, api.ErrType},
		{concat(slices.Repeat([]api.Plan{source(0)}, 64)...), schemas(1), api.ErrLong},
	} {
		f, why := flow.New(x.plan, x.sources)
		if _, no := graph.Build(x.plan, x.sources); why != x.want || no != why || !reflect.DeepEqual(f, api.Flow{}) {
			t.Errorf("%+v: error %d, want %d; %s", x.plan, why, x.want, plain(f))
		}
	}
}

// valid is flows made by hand that are valid, though they may be none of a plan.
func valid(t *testing.T) map[string]api.Flow {
	a := source(0)
	two := hand(api.Node{Kind: api.NodeLoop, Rounds: 1}, by(joined(a, a, nil, nil)), by(negate(a)))
	full := insert(t, api.Spine{Since: []api.Time{at(1, 2), at(2, 1)}}, ups(keyed(1, up(at(1), 1, 1)), keyed(2, up(at(1), 2, "a"))), ups(keyed(3, up(at(5), 1, 1))))
	busy := insert(t, api.Spine{}, ups(up(at(1), 1, 1)), ups(up(at(1), -1, 1)))
	kept := put(two, 3, 0, up(at(maxNumber, maxNumber, maxNumber), least, slices.Repeat([]any{strings.Repeat("x", maxText)}, maxCols)...))
	for i := range kept.States {
		kept.States[i].Left, kept.States[i].Right = full, busy
	}
	failed, early := two, two
	failed.Failed, failed.Fail = true, math.MaxUint64
	early.Failed = true
	return map[string]api.Flow{
		"a NodeOut alone":     hand(),
		"two ports":           put(put(two, 1, 1, up(at(0), 1)), 2, 1, up(at(0), 1)),
		"both ports":          put(put(two, 2, 1, up(at(0), 1)), 2, 0, up(at(0), 1)),
		"one that waits":      put(two, 0, 0, up(at(0), 1), up(at(0, 1), 1), up(at(3), 1), up(at(0), -1, 1)),
		"spines":              kept,
		"it failed at last":   failed,
		"it failed at once":   early,
		"nodes in circles":    hand(by(concat(a), to(1, 0, 1, 0, 0, 0)...)),
		"what never may be":   hand(by(reduce(a, api.AggTop, 99, 55)), by(joined(a, a, []int{-1}, nil), to(2, 0, 2, 1)...)),
		"no one to go to":     hand(api.Node{Kind: api.NodeSource, N: 7}, api.Node{Kind: api.NodeLeave, Loop: 1, Rounds: maxRounds}),
		"a NodeOut that goes": {Nodes: []api.Node{{Kind: api.NodeOut, To: to(0, 0)}}, States: make([]api.State, 1)},
	}
}

// wrong is flows of which each is wrong in one way.
func wrong(t *testing.T) map[string]api.Flow {
	a := source(0)
	whole := hand(api.Node{Kind: api.NodeLoop, Rounds: 1}, by(joined(a, a, nil, nil)), by(negate(a)), api.Node{Kind: api.NodeSource}, api.Node{Kind: api.NodeLeave, Rounds: 1}, by(distinct(a)), by(reduce(a, api.AggCount, 0)))
	u := up(at(1), 1, 1)
	l := map[string]api.Flow{
		"nothing":       {},
		"states alone":  {States: make([]api.State, 1)},
		"no state":      {Nodes: []api.Node{{Kind: api.NodeOut}}},
		"fewer states":  {Nodes: whole.Nodes, States: whole.States[1:]},
		"more states":   {Nodes: whole.Nodes, States: append(slices.Clone(whole.States), api.State{})},
		"no NodeOut":    {Nodes: whole.Nodes[1:], States: whole.States[1:]},
		"two NodeOuts":  hand(api.Node{Kind: api.NodeOut}),
		"no rounds":     hand(api.Node{Kind: api.NodeLoop}),
		"to a source":   hand(api.Node{Kind: api.NodeSource, To: to(1, 0)}),
		"to nowhere":    hand(by(negate(a), to(2, 0)...)),
		"a kid":         hand(api.Node{Kind: api.NodePlan, Plan: negate(a)}),
		"it may fail":   {Nodes: whole.Nodes, States: whole.States, Fail: 1},
		"a key":         put(whole, 1, 0, keyed(1, u)),
		"a key of port": put(whole, 2, 1, keyed(1, u)),
		"a last key":    put(whole, 3, 0, u, keyed(1, u)),
		"no order":      put(whole, 4, 0, up(at(1), 1, 2), u),
		"twice":         put(whole, 0, 0, u, u),
		"none":          put(whole, 5, 0, up(at(1), 0, 1)),
		"none at 1":     put(whole, 1, 1, up(at(1), 0, 1)),
		"a late epoch":  put(whole, 6, 0, up(at(maxNumber+1), 1, 1)),
		"a late round":  put(whole, 7, 0, up(at(0, 0, maxNumber+1), 1, 1)),
		"a wide row":    put(whole, 3, 0, api.Update{Row: make([]api.Value, maxCols+1), Diff: 1}),
		"a long text":   put(whole, 3, 0, up(at(0), 1, strings.Repeat("x", maxText+1))),
	}
	for i, n := range whole.Nodes {
		if n.Kind != api.NodeLoop && n.Plan.Kind != api.PlanJoin {
			l[fmt.Sprintf("port 1 of %d", i)] = put(whole, i, 1, u)
		}
		for j, s := range wrongSpines() {
			left, right := put(whole, 0, 0), put(whole, 0, 0)
			left.States[i].Left, right.States[i].Right = s, s
			l[fmt.Sprintf("left %d of %d", j, i)], l[fmt.Sprintf("right %d of %d", j, i)] = left, right
		}
	}
	if why := flow.Check(put(whole, 1, 1, u)); why != api.OK {
		t.Fatalf("all else is wrong, too: error %d", why)
	}
	return l
}

// wrongSpines is spines that are not valid.
func wrongSpines() []api.Spine {
	l := ups(up(at(1), 1, 1))
	level := api.Level{Class: 1, Batch: api.Batch{Updates: l}}
	return []api.Spine{
		{Since: []api.Time{at(1), at(2)}},
		{Levels: []api.Level{{}}},
		{Levels: []api.Level{level, level}},
		{Levels: []api.Level{{Class: 1, Busy: true, Merger: api.Merger{A: l, B: l, I: 1, J: 1}}}},
	}
}

// 15.1, and of all other functions that they look whether a flow is valid first, and that all else is zero then.
func TestCheck(t *testing.T) {
	for name, f := range valid(t) {
		if why := flow.Check(f); why != api.OK {
			t.Errorf("%s: error %d", name, why)
		}
	}
	late := ups(up(at(maxNumber+1), 1, 1))
	for name, f := range wrong(t) {
		if why := flow.Check(f); why != api.ErrState {
			t.Errorf("%s: error %d", name, why)
		}
		hold := func(what string, g api.Flow, why api.Errno) {
			t.Helper()
			if why != api.ErrState || !reflect.DeepEqual(g, api.Flow{}) {
				t.Errorf("%s, %s: error %d, %s", name, what, why, plain(g))
			}
		}
		g, why := flow.Push(f, 0, nil)
		hold("Push", g, why)
		g, why = flow.Push(f, -1, late)
		hold("Push", g, why)
		g, why = flow.Run(f, 0)
		hold("Run", g, why)
		g, why = flow.Run(f, -1)
		hold("Run", g, why)
		g, why = flow.Compact(f, 0)
		hold("Compact", g, why)
		g, why = flow.Compact(f, maxNumber+1)
		hold("Compact", g, why)
		g, why = flow.Work(f, 1)
		hold("Work", g, why)
		if l, why := flow.Waits(f); len(l) > 0 || why != api.ErrState {
			t.Errorf("%s, Waits: %d, error %d", name, l, why)
		}
		if n, found, why := flow.Low(f); n != 0 || found || why != api.ErrState {
			t.Errorf("%s, Low: %d, %t, error %d", name, n, found, why)
		}
		if l, why := flow.Out(f); len(l) > 0 || why != api.ErrState {
			t.Errorf("%s, Out: %s, error %d", name, show(l), why)
		}
	}
}

// 15.2
func TestWaitsAndLow(t *testing.T) {
	a := source(0)
	f := hand(api.Node{Kind: api.NodeLoop, Rounds: 1}, by(joined(a, a, nil, nil)), by(negate(a)), api.Node{Kind: api.NodeSource})
	hold := func(f api.Flow, epoch uint64, nodes ...int) {
		t.Helper()
		l, why := flow.Waits(f)
		n, found, no := flow.Low(f)
		if !slices.Equal(l, nodes) || why != api.OK || n != epoch || found != (len(nodes) > 0) || no != api.OK {
			t.Errorf("waiting at %d, want %d; low %d, %t, want %d; errors %d and %d", l, nodes, n, found, epoch, why, no)
		}
	}
	hold(f, 0)
	hold(put(f, 4, 0, up(at(9), 1)), 9, 4)
	hold(put(f, 2, 1, up(at(9), 1)), 9, 2)
	hold(put(f, 0, 0, up(at(0, 5), 1)), 0, 0)
	hold(put(f, 1, 1, up(at(maxNumber), -1)), maxNumber, 1)
	f = put(put(put(f, 3, 0, up(at(5), 1, 1), up(at(4), 1, 2), up(at(6), 1, 3)), 1, 0, up(at(7), 1)), 1, 1, up(at(8), 1))
	hold(f, 4, 1, 3)
	hold(put(f, 1, 1, up(at(3, 4), 1)), 3, 1, 3)
	hold(put(f, 2, 1, up(at(2, 4), 1, "a"), up(at(1), 1, "b")), 1, 1, 2, 3)
}

// 15.3
func TestOut(t *testing.T) {
	f := push(t, start(t, source(0)), 0, up(at(1), 2, 7), up(at(4), -2, 7), up(at(2), 3, 5))
	l, why := flow.Out(f)
	wantUpdates(t, "ahead of all", l)
	f = run(t, f, 1, 0)
	l, no := flow.Out(f)
	wantUpdates(t, "all", l, up(at(2), 3, 5), up(at(1), 2, 7), up(at(4), -2, 7))
	if why != api.OK || no != api.OK {
		t.Errorf("errors %d and %d", why, no)
	}
	f = push(t, f, 0, up(at(2), 1, 5), up(at(4), 2, 7))
	f = run(t, f, 1, 0)
	l, _ = flow.Out(f)
	wantUpdates(t, "more", l, up(at(2), 4, 5), up(at(1), 2, 7))
	f, _ = flow.Compact(f, 3)
	l, _ = flow.Out(f)
	wantUpdates(t, "compacted", l, up(at(3), 4, 5), up(at(3), 2, 7))

	// Sums that fit as long as they are not added up.
	f = hand()
	f.States[0].Left = insert(t, api.Spine{}, ups(keyed(1, up(at(0), greatest, 1))), ups(keyed(1, up(at(1), 1, 1))))
	l, why = flow.Out(f)
	wantUpdates(t, "with keys", l, keyed(1, up(at(0), greatest, 1)), keyed(1, up(at(1), 1, 1)))
	f, no = flow.Compact(f, 1)
	if l, over := flow.Out(f); len(l) > 0 || why != api.OK || no != api.OK || over != api.ErrOver {
		t.Errorf("too many: %s, errors %d, %d and %d", show(l), why, no, over)
	}
}
