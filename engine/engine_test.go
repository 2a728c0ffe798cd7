package engine_test

import (
	"fmt"
	"math"
	"slices"
	"testing"

	"freshet/api"
	"freshet/engine"
	"freshet/flow"
	"freshet/front"
	"freshet/input"
)

// maxNumber is written out, as the limit is itself part of what is tested.
const maxNumber = 1 << 62

const (
	greatest = math.MaxInt64
	least    = math.MinInt64
)

const (
	number = api.TypeInt
	text   = api.TypeText
)

// row has a number for each integer, and a text for each string.
func row(l ...any) []api.Value {
	var r []api.Value
	for _, x := range l {
		switch x := x.(type) {
		case int:
			r = append(r, api.Value{N: int64(x)})
		case string:
			r = append(r, api.Value{IsText: true, S: x})
		}
	}
	return r
}

// up is an update without a key, outside of loops.
func up(epoch uint64, n int64, l ...any) api.Update {
	return api.Update{Row: row(l...), Time: api.Time{Epoch: epoch}, Diff: n}
}

func ups(l ...api.Update) []api.Update { return l }

func count(n int64, l ...any) api.Count { return api.Count{Row: row(l...), N: n} }

func counts(l ...api.Count) []api.Count { return l }

func source(n int) api.Plan            { return api.Plan{Kind: api.PlanSource, N: n} }
func variable(n int) api.Plan          { return api.Plan{Kind: api.PlanVar, N: n} }
func negate(kid api.Plan) api.Plan     { return api.Plan{Kind: api.PlanNegate, Kids: []api.Plan{kid}} }
func distinct(kid api.Plan) api.Plan   { return api.Plan{Kind: api.PlanDistinct, Kids: []api.Plan{kid}} }
func concat(kids ...api.Plan) api.Plan { return api.Plan{Kind: api.PlanConcat, Kids: kids} }

func mapped(kid api.Plan, exprs ...api.Expr) api.Plan {
	return api.Plan{Kind: api.PlanMap, Kids: []api.Plan{kid}, Exprs: exprs}
}

func joined(a, b api.Plan, cols, with []int) api.Plan {
	return api.Plan{Kind: api.PlanJoin, Kids: []api.Plan{a, b}, Cols: cols, With: with}
}

func reduce(kid api.Plan, agg api.AggKind, n int, cols ...int) api.Plan {
	return api.Plan{Kind: api.PlanReduce, Kids: []api.Plan{kid}, Agg: agg, N: n, Cols: cols}
}

// tally is how many rows a plan comes to.
func tally(p api.Plan) api.Plan { return reduce(p, api.AggCount, 0) }

func iterate(rounds int, a, b api.Plan) api.Plan {
	return api.Plan{Kind: api.PlanIterate, Kids: []api.Plan{a, b}, Rounds: rounds}
}

func col(i int) api.Expr { return api.Expr{Op: api.ExprCol, Col: i} }
func con(n int) api.Expr { return api.Expr{Op: api.ExprConst, Const: api.Value{N: int64(n)}} }

func op(o api.ExprOp, kids ...api.Expr) api.Expr { return api.Expr{Op: o, Kids: kids} }

// next is the rows of one number that are greater by 1, as far as they are less than 4.
func next(p api.Plan) api.Plan {
	less := api.Plan{Kind: api.PlanFilter, Kids: []api.Plan{p}, Exprs: []api.Expr{op(api.ExprLess, col(0), con(4))}}
	return mapped(less, op(api.ExprAdd, col(0), con(1)))
}

func schemas(l ...[]api.Type) api.Record {
	return api.Record{Kind: api.RecordSchemas, Schemas: l}
}

func put(source int, l ...api.Update) api.Record {
	return api.Record{Kind: api.RecordPut, Source: source, List: l}
}

func epoch(kind api.RecordKind, n uint64) api.Record {
	return api.Record{Kind: kind, Epoch: n}
}

func install(name string, p api.Plan) api.Record {
	return api.Record{Kind: api.RecordInstall, Name: name, Plan: p}
}

func named(kind api.RecordKind, name string, n uint64) api.Record {
	return api.Record{Kind: kind, Name: name, Epoch: n}
}

func subscribe(name, query string, n uint64) api.Record {
	return api.Record{Kind: api.RecordSub, Name: name, Query: query, Epoch: n}
}

// plain tells all of a value; a list of nothing is told as none is.
func plain(x any) string { return fmt.Sprintf("%+v", x) }

// brief is the beginning of what plain tells.
func brief(s string) string { return s[:min(len(s), 900)] }

// do is an engine after some records.
func do(t *testing.T, e api.Engine, l ...api.Record) api.Engine {
	t.Helper()
	for _, r := range l {
		got, why := engine.Do(e, r)
		if why != api.OK {
			t.Fatalf("%s: error %d", plain(r), why)
		}
		e = got
	}
	return e
}

// pick is an engine after some nodes of a query were run.
func pick(t *testing.T, e api.Engine, query string, nodes ...int) api.Engine {
	t.Helper()
	for _, n := range nodes {
		got, why := engine.Pick(e, query, n)
		if why != api.OK {
			t.Fatalf("%s, %d: error %d", query, n, why)
		}
		e = got
	}
	return e
}

// settle is an engine after all nodes of all queries were run till nothing waits.
func settle(t *testing.T, e api.Engine) api.Engine {
	t.Helper()
	for i, q := range e.Base.Queries {
		for l := waits(t, e.Flows[i]); len(l) > 0; l = waits(t, e.Flows[i]) {
			e = pick(t, e, q.Name, l...)
		}
	}
	return e
}

func waits(t *testing.T, f api.Flow) []int {
	t.Helper()
	l, why := flow.Waits(f)
	if why != api.OK {
		t.Fatal(why)
	}
	return l
}

// example is that of the chapter: how many rows there are, at 0 one, at 1 another one, at 2 no longer the first one.
func example(t *testing.T) api.Engine {
	t.Helper()
	return do(t, api.Engine{}, schemas([]api.Type{number}), install("c", tally(source(0))), subscribe("s", "c", 1),
		put(0, up(0, 1, 5), up(1, 1, 6)), put(0, up(2, -1, 5)), epoch(api.RecordClose, 3))
}

// several is an engine of several queries, some of which have nodes at which something waits.
func several(t *testing.T) api.Engine {
	t.Helper()
	e := do(t, api.Engine{}, schemas([]api.Type{number}, []api.Type{number, text}),
		install("loop", iterate(6, source(0), distinct(concat(source(0), next(variable(0)))))), install("both", joined(source(1), source(0), []int{0}, []int{0})), install("all", source(1)),
		put(0, up(0, 1, 1), up(1, 2, 2), up(1, -1, 1)), put(1, up(0, 1, 1, "a"), up(2, 3, 2, "b")), subscribe("s", "both", 1), subscribe("r", "loop", 0), epoch(api.RecordClose, 3))
	e = settle(t, e)
	e = do(t, e, put(0, up(3, 1, 1), up(4, 1, 4)), put(1, up(3, -1, 1, "a"), up(5, -1, 2, "b")), epoch(api.RecordClose, 5), named(api.RecordMark, "all", 2), named(api.RecordMark, "both", 3))
	return pick(t, e, "loop", 0, 1, 2, 3)
}

// wantEngine holds that an engine is another one.
func wantEngine(t *testing.T, name string, got api.Engine, why api.Errno, want api.Engine, no api.Errno) {
	t.Helper()
	if why != no {
		t.Errorf("%s: error %d, want %d", name, why, no)
	}
	if plain(got.Base) != plain(want.Base) {
		t.Errorf("%s: the base is\n     %s\nwant %s", name, brief(plain(got.Base)), brief(plain(want.Base)))
	}
	if len(got.Flows) != len(want.Flows) {
		t.Errorf("%s: %d flows, want %d", name, len(got.Flows), len(want.Flows))
		return
	}
	for i, f := range got.Flows {
		if plain(f) != plain(want.Flows[i]) {
			t.Errorf("%s: the flow %d is\n     %s\nwant %s", name, i, brief(plain(f)), brief(plain(want.Flows[i])))
		}
	}
	if no == api.OK && engine.Check(got) != api.OK {
		t.Errorf("%s: not valid", name)
	}
}

// wantNo holds that an engine is not valid, for all that look at it.
func wantNo(t *testing.T, name string, e api.Engine) {
	t.Helper()
	if why := engine.Check(e); why != api.ErrState {
		t.Errorf("%s: Check: error %d", name, why)
	}
	none := api.Engine{}
	for _, r := range []api.Record{{}, epoch(api.RecordClose, 0), epoch(api.RecordClose, 1<<40), epoch(api.RecordHold, 0), named(api.RecordMark, "all", 3), named(api.RecordDrop, "none", 0)} {
		got, why := engine.Do(e, r)
		wantEngine(t, name+": Do", got, why, none, api.ErrState)
	}
	for _, query := range []string{"", "none", "all", "loop"} {
		got, why := engine.Pick(e, query, 0)
		wantEngine(t, name+": Pick", got, why, none, api.ErrState)
		n, failed, why := engine.Done(e, query)
		if n != 0 || failed || why != api.ErrState {
			t.Errorf("%s: Done: %d, %t, error %d", name, n, failed, why)
		}
		if l, why := engine.Peek(e, query, 1); len(l) > 0 || why != api.ErrState {
			t.Errorf("%s: Peek: %s, error %d", name, plain(l), why)
		}
	}
	got, why := engine.Work(e, 1)
	wantEngine(t, name+": Work", got, why, none, api.ErrState)
	for _, sub := range []string{"", "s", "r"} {
		if l, why := engine.Hear(e, sub, 1); len(l) > 0 || why != api.ErrState {
			t.Errorf("%s: Hear: %s, error %d", name, plain(l), why)
		}
	}
	if l, why := engine.Marks(e); len(l) > 0 || why != api.ErrState {
		t.Errorf("%s: Marks: %s, error %d", name, plain(l), why)
	}
}

// change is an engine with a change; what an engine is told to be is not shared with others.
func change(e api.Engine, f func(*api.Engine)) api.Engine {
	e.Base.Queries, e.Base.Subs, e.Base.Sources = slices.Clone(e.Base.Queries), slices.Clone(e.Base.Subs), slices.Clone(e.Base.Sources)
	e.Flows = slices.Clone(e.Flows)
	for i, g := range e.Flows {
		e.Flows[i].Nodes, e.Flows[i].States = slices.Clone(g.Nodes), slices.Clone(g.States)
	}
	f(&e)
	return e
}

// wrong is engines that are not valid.
func wrong(t *testing.T) map[string]api.Engine {
	e := several(t)
	l := map[string]api.Engine{}
	for name, f := range map[string]func(*api.Engine){
		"a base that is not valid":    func(e *api.Engine) { e.Base.Since = 6 },
		"a base of another kind":      func(e *api.Engine) { e.Base.Schemas = nil },
		"a flow too few":              func(e *api.Engine) { e.Flows = e.Flows[:2] },
		"no flows":                    func(e *api.Engine) { e.Flows = nil },
		"a flow too many":             func(e *api.Engine) { e.Flows = append(e.Flows, e.Flows[2]) },
		"flows in another order":      func(e *api.Engine) { slices.Reverse(e.Flows) },
		"one flow twice":              func(e *api.Engine) { e.Flows[0] = e.Flows[1] },
		"an empty flow":               func(e *api.Engine) { e.Flows[1] = api.Flow{} },
		"a Fail without having it":    func(e *api.Engine) { e.Flows[2].Fail = 1 },
		"a state too few":             func(e *api.Engine) { e.Flows[2].States = e.Flows[2].States[1:] },
		"what waits is not in order":  func(e *api.Engine) { e.Flows[0].States[1].Waits[0] = ups(up(1, 1, 1, "b"), up(1, 1, 1, "a")) },
		"a spine that is not valid":   func(e *api.Engine) { e.Flows[0].States[1].Right.Levels = make([]api.Level, 1) },
		"a node too few":              func(e *api.Engine) { cut(&e.Flows[1]) },
		"a node too many":             func(e *api.Engine) { grow(&e.Flows[1]) },
		"another kind":                func(e *api.Engine) { e.Flows[0].Nodes[1] = api.Node{Kind: api.NodeLeave, Rounds: 1, To: to(0, 0)} },
		"another source":              func(e *api.Engine) { e.Flows[0].Nodes[1].N = 0 },
		"another plan":                func(e *api.Engine) { e.Flows[1].Nodes[1].Plan.Cols = []int{1} },
		"columns more":                func(e *api.Engine) { e.Flows[1].Nodes[1].Plan.With = []int{0, 0} },
		"another kind of plan":        func(e *api.Engine) { e.Flows[2].Nodes[3].Plan.Kind = api.PlanNegate },
		"other rounds":                func(e *api.Engine) { e.Flows[2].Nodes[1].Rounds = 5 },
		"other rounds to leave":       func(e *api.Engine) { e.Flows[2].Nodes[2].Rounds = 5 },
		"another loop":                func(e *api.Engine) { e.Flows[2].Nodes[1].Loop = 1 },
		"another way":                 func(e *api.Engine) { e.Flows[1].Nodes[2].To = to(1, 1) },
		"a way more":                  func(e *api.Engine) { e.Flows[1].Nodes[2].To = to(1, 0, 1, 0) },
		"no way":                      func(e *api.Engine) { e.Flows[1].Nodes[2].To = nil },
		"no way back":                 func(e *api.Engine) { e.Flows[2].Nodes[1].Back = nil },
		"another expression":          func(e *api.Engine) { exprs(e, 7)[0] = op(api.ExprSub, col(0), con(1)) },
		"another column":              func(e *api.Engine) { exprs(e, 7)[0] = op(api.ExprAdd, col(1), con(1)) },
		"another constant":            func(e *api.Engine) { exprs(e, 7)[0] = op(api.ExprAdd, col(0), con(2)) },
		"the constant is a text":      func(e *api.Engine) { exprs(e, 7)[0].Kids[1].Const = row("")[0] },
		"another filter":              func(e *api.Engine) { exprs(e, 8)[0] = op(api.ExprLess, con(4), col(0)) },
		"expressions more":            func(e *api.Engine) { e.Flows[2].Nodes[7].Plan.Exprs = append(exprs(e, 7), col(0)) },
		"a node of an aggregate":      func(e *api.Engine) { e.Flows[2].Nodes[3].Plan = bare(reduce(source(0), api.AggTop, 1)) },
		"another plan of its query":   func(e *api.Engine) { e.Base.Queries[1].Plan = negate(source(0)) },
		"another of the same nodes":   func(e *api.Engine) { e.Base.Queries[0].Plan = source(0) },
		"other names of the queries":  func(e *api.Engine) { e.Base.Queries[0].Name, e.Base.Queries[1].Name = "both", "all" },
		"a query less, and its flow":  func(e *api.Engine) { e.Base.Queries, e.Base.Subs, e.Flows = e.Base.Queries[1:], nil, e.Flows[:2] },
		"a query without its columns": func(e *api.Engine) { e.Base.Queries[1].Plan.Cols, e.Base.Queries[1].Plan.With = nil, nil },
	} {
		l[name] = change(e, f)
	}
	return l
}

func to(l ...int) []api.Port {
	var ports []api.Port
	for i := 0; i < len(l); i += 2 {
		ports = append(ports, api.Port{Node: l[i], Port: l[i+1]})
	}
	return ports
}

func bare(p api.Plan) api.Plan {
	p.Kids = nil
	return p
}

// cut takes the last node from a flow.
func cut(f *api.Flow) {
	f.Nodes, f.States = f.Nodes[:len(f.Nodes)-1], f.States[:len(f.States)-1]
}

// grow adds a node to a flow.
func grow(f *api.Flow) {
	f.Nodes, f.States = append(f.Nodes, f.Nodes[2]), append(f.States, api.State{})
}

// exprs makes the expressions of a node of the last flow its own, and returns them.
func exprs(e *api.Engine, node int) []api.Expr {
	n := &e.Flows[2].Nodes[node]
	n.Plan.Exprs = slices.Clone(n.Plan.Exprs)
	for i, x := range n.Plan.Exprs {
		n.Plan.Exprs[i].Kids = slices.Clone(x.Kids)
	}
	return n.Plan.Exprs
}

// 18.1
func TestCheck(t *testing.T) {
	e := several(t)
	for name, e := range map[string]api.Engine{
		"a zero engine": {},
		"empty lists":   {Base: api.Base{Queries: []api.Query{}}, Flows: []api.Flow{}},
		"several":       e,
		"settled":       settle(t, e),
		"the example":   example(t),
		"it has failed": change(e, func(e *api.Engine) { e.Flows[1].Failed, e.Flows[1].Fail = true, 3 }),
		"by hand":       change(e, func(e *api.Engine) { e.Flows[0].States[1].Waits[0] = ups(up(0, 1)) }),
	} {
		if why := engine.Check(e); why != api.OK {
			t.Errorf("%s: error %d", name, why)
		}
	}
	// A list of nothing is as good as none.
	empty := change(e, func(e *api.Engine) {
		for _, f := range e.Flows {
			for i, n := range f.Nodes {
				n.Plan.Kids = []api.Plan{}
				if len(n.Plan.Cols) == 0 {
					n.Plan.Cols = []int{}
				}
				if len(n.Plan.With) == 0 {
					n.Plan.With = []int{}
				}
				if len(n.To) == 0 {
					n.To = []api.Port{}
				}
				if len(n.Back) == 0 {
					n.Back = []api.Port{}
				}
				f.Nodes[i] = n
			}
		}
	})
	if why := engine.Check(empty); why != api.OK {
		t.Errorf("empty lists: error %d", why)
	}
	for name, e := range wrong(t) {
		wantNo(t, name, e)
	}
	wantNo(t, "a flow of nothing", api.Engine{Flows: []api.Flow{{Nodes: []api.Node{{Kind: api.NodeOut}}, States: make([]api.State, 1)}}})
}

// P1: what contains itself.
func TestEndless(t *testing.T) {
	p := []api.Plan{{Kind: api.PlanNegate}}
	p[0].Kids = p
	x := []api.Expr{{Op: api.ExprNot}}
	x[0].Kids = x
	e := several(t)
	for name, f := range map[string]func(*api.Engine){
		"a plan in itself":                    func(e *api.Engine) { e.Base.Queries[1].Plan = p[0] },
		"an expression in itself":             func(e *api.Engine) { e.Base.Queries[1].Plan = mapped(source(0), x...) },
		"a plan of a node in itself":          func(e *api.Engine) { e.Flows[1].Nodes[1].Plan = p[0] },
		"an expression of a node in itself":   func(e *api.Engine) { e.Flows[2].Nodes[7].Plan.Exprs = x },
		"an expression in itself, of no kind": func(e *api.Engine) { e.Flows[2].Nodes[2].Plan.Exprs = x },
	} {
		e := change(e, f)
		if why := engine.Check(e); why != api.ErrState {
			t.Errorf("%s: Check: error %d", name, why)
		}
		if got, why := engine.Do(e, epoch(api.RecordClose, 9)); why != api.ErrState || len(got.Flows) > 0 {
			t.Errorf("%s: Do: error %d", name, why)
		}
		if got, why := engine.Work(e, 9); why != api.ErrState || len(got.Flows) > 0 {
			t.Errorf("%s: Work: error %d", name, why)
		}
		want := input.Check(e.Base)
		if got, why := engine.Start(e.Base); why != want || why != api.OK && len(got.Flows) > 0 {
			t.Errorf("%s: Start: error %d, want %d", name, why, want)
		}
	}
	got, why := engine.Do(e, install("x", p[0]))
	wantEngine(t, "a plan in itself", got, why, e, api.ErrLong)
	got, why = engine.Do(e, api.Record{Kind: api.RecordDrop, Name: "all", Plan: p[0]})
	wantEngine(t, "a plan in itself", got, why, e, api.ErrForm)
}

// started is a flow as Start makes it, by hand.
func started(t *testing.T, b api.Base, q api.Query) api.Flow {
	t.Helper()
	f, why := flow.New(q.Plan, b.Schemas)
	feed := func(which func(api.Update) bool) {
		for i, l := range b.Sources {
			l := slices.DeleteFunc(slices.Clone(l), func(u api.Update) bool { return !which(u) })
			if why == api.OK {
				f, why = flow.Push(f, i, l)
			}
		}
	}
	feed(func(u api.Update) bool { return u.Time.Epoch < q.Done })
	f, _, _ = front.Settle(f)
	f, no := flow.Compact(f, b.Since)
	feed(func(u api.Update) bool { return u.Time.Epoch >= q.Done })
	if why != api.OK || no != api.OK {
		t.Fatal(why, no)
	}
	return f
}

// bases is some that are valid.
func bases(t *testing.T) map[string]api.Base {
	e := several(t)
	free := do(t, settle(t, e), named(api.RecordLeave, "r", 0), named(api.RecordLeave, "s", 0))
	over := do(t, api.Engine{}, schemas([]api.Type{number}), install("n", tally(source(0))), install("m", negate(source(0))), put(0, up(1, greatest, 1), up(2, 1, 2), up(3, least, 3)), epoch(api.RecordClose, 4))
	l := map[string]api.Base{
		"nothing":     {},
		"no query":    do(t, api.Engine{}, schemas(nil), put(0, up(3, 1))).Base,
		"the example": example(t).Base,
		"several":     e.Base,
		"numbers":     over.Base,
	}
	for i := range uint64(6) {
		l[fmt.Sprint("held at ", i)] = do(t, free, epoch(api.RecordHold, i)).Base
		for _, name := range []string{"the example", "several", "numbers"} {
			b := l[name]
			b.Queries = slices.Clone(b.Queries)
			for k := range b.Queries {
				b.Queries[k].Done = min(i+uint64(k), b.Closed)
			}
			l[fmt.Sprint(name, " done at ", i)] = b
		}
	}
	return l
}

// 18.1
func TestStart(t *testing.T) {
	waiting, done := 0, 0
	for name, b := range bases(t) {
		got, why := engine.Start(b)
		want := api.Engine{Base: b}
		for _, q := range b.Queries {
			want.Flows = append(want.Flows, started(t, b, q))
		}
		wantEngine(t, name, got, why, want, api.OK)
		for i, q := range b.Queries {
			if low, found, _ := flow.Low(got.Flows[i]); found {
				waiting++
				if low < q.Done {
					t.Errorf("%s: %s: an update of %d waits, but %d is done", name, q.Name, low, q.Done)
				}
			}
			if n, failed, _ := engine.Done(got, q.Name); n >= q.Done && !failed && n > 0 {
				done++
			}
		}
	}
	if waiting < 10 || done < 10 {
		t.Errorf("only %d flows wait, and %d have done something", waiting, done)
	}
	for name, e := range wrong(t) {
		if input.Check(e.Base) == api.OK {
			continue
		}
		got, why := engine.Start(e.Base)
		wantEngine(t, name, got, why, api.Engine{}, api.ErrState)
	}
	for name, b := range map[string]api.Base{"closed": {Closed: 1}, "a source": {Sources: make([][]api.Update, 1)}} {
		got, why := engine.Start(b)
		wantEngine(t, name, got, why, api.Engine{}, api.ErrState)
	}
}
