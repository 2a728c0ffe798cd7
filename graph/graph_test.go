package graph_test

import (
	"fmt"
	"math"
	"slices"
	"testing"

	"freshet/api"
	"freshet/graph"
	"freshet/plan"
)

// The limits are written out, as they are themselves part of what is tested.
const (
	maxNodes   = 64
	maxRounds  = 16
	maxSources = 8
	maxLoops   = 2
	maxDepth   = 16
)

func source(n int) api.Plan   { return api.Plan{Kind: api.PlanSource, N: n} }
func variable(n int) api.Plan { return api.Plan{Kind: api.PlanVar, N: n} }

func mapped(kid api.Plan, exprs ...api.Expr) api.Plan {
	return api.Plan{Kind: api.PlanMap, Kids: []api.Plan{kid}, Exprs: exprs}
}

func filter(kid api.Plan, e api.Expr) api.Plan {
	return api.Plan{Kind: api.PlanFilter, Kids: []api.Plan{kid}, Exprs: []api.Expr{e}}
}

func concat(kids ...api.Plan) api.Plan { return api.Plan{Kind: api.PlanConcat, Kids: kids} }
func negate(kid api.Plan) api.Plan     { return api.Plan{Kind: api.PlanNegate, Kids: []api.Plan{kid}} }
func distinct(kid api.Plan) api.Plan   { return api.Plan{Kind: api.PlanDistinct, Kids: []api.Plan{kid}} }

func join(a, b api.Plan, cols, with []int) api.Plan {
	return api.Plan{Kind: api.PlanJoin, Kids: []api.Plan{a, b}, Cols: cols, With: with}
}

func reduce(kid api.Plan, agg api.AggKind, n int, cols ...int) api.Plan {
	return api.Plan{Kind: api.PlanReduce, Kids: []api.Plan{kid}, Agg: agg, N: n, Cols: cols}
}

func iterate(rounds int, a, b api.Plan) api.Plan {
	return api.Plan{Kind: api.PlanIterate, Kids: []api.Plan{a, b}, Rounds: rounds}
}

func col(i int) api.Expr { return api.Expr{Op: api.ExprCol, Col: i} }

func not(e api.Expr) api.Expr { return api.Expr{Op: api.ExprNot, Kids: []api.Expr{e}} }

// deep is so many negations of a plan.
func deep(n int, p api.Plan) api.Plan {
	for range n {
		p = negate(p)
	}
	return p
}

// schemas is those of sources of one number each.
func schemas(n int) [][]api.Type {
	var l [][]api.Type
	for range n {
		l = append(l, []api.Type{api.TypeInt})
	}
	return l
}

func to(l ...int) []api.Port {
	var ports []api.Port
	for i := 0; i < len(l); i += 2 {
		ports = append(ports, api.Port{Node: l[i], Port: l[i+1]})
	}
	return ports
}

func out() api.Node { return api.Node{Kind: api.NodeOut} }

// from is a node of a source that goes to a port.
func from(n, node, port int) api.Node {
	return api.Node{Kind: api.NodeSource, N: n, To: to(node, port)}
}

// by is a node of a plan, which is without its Kids, that goes to a port.
func by(p api.Plan, node, port int) api.Node {
	p.Kids = nil
	return api.Node{Kind: api.NodePlan, Plan: p, To: to(node, port)}
}

// begin is a NodeLoop that goes to the node behind it.
func begin(loop, rounds, next int, back ...int) api.Node {
	return api.Node{Kind: api.NodeLoop, Loop: loop, Rounds: rounds, To: to(next, 0), Back: to(back...)}
}

func leave(loop, rounds, node, port int) api.Node {
	return api.Node{Kind: api.NodeLeave, Loop: loop, Rounds: rounds, To: to(node, port)}
}

func show(l []api.Node) string {
	s := fmt.Sprintf("%d nodes", len(l))
	for _, n := range l[:min(len(l), 9)] {
		s += fmt.Sprintf("; %d, plan %d %d %d %d %d, N %d, loop %d of %d, to %d, back %d", n.Kind, n.Plan.Kind, n.Plan.N, n.Plan.Cols, n.Plan.With, n.Plan.Agg, n.N, n.Loop, n.Rounds, n.To, n.Back)
	}
	return s
}

// same reports whether nodes are the same, whether lists are nil or empty.
func same(a, b []api.Node) bool {
	return slices.EqualFunc(a, b, func(x, y api.Node) bool {
		return x.Kind == y.Kind && samePlan(x.Plan, y.Plan) && x.N == y.N && x.Loop == y.Loop && x.Rounds == y.Rounds && slices.Equal(x.To, y.To) && slices.Equal(x.Back, y.Back)
	})
}

func samePlan(a, b api.Plan) bool {
	return a.Kind == b.Kind && a.N == b.N && len(a.Kids)+len(b.Kids) == 0 && slices.EqualFunc(a.Exprs, b.Exprs, sameExpr) &&
		slices.Equal(a.Cols, b.Cols) && slices.Equal(a.With, b.With) && a.Agg == b.Agg && a.Rounds == b.Rounds
}

func sameExpr(a, b api.Expr) bool {
	return a.Op == b.Op && a.Col == b.Col && a.Const == b.Const && slices.EqualFunc(a.Kids, b.Kids, sameExpr)
}

// built is plans of sources with a number each, and their nodes.
func built() map[string]struct {
	plan api.Plan
	want []api.Node
} {
	type test = struct {
		plan api.Plan
		want []api.Node
	}
	a, x, y := source(0), variable(0), variable(1)
	j := join(a, negate(a), []int{0}, []int{0})
	m := mapped(a, not(not(col(0))), col(0))
	f := filter(source(7), not(col(0)))
	r := reduce(source(3), api.AggTop, 8, 0, 0)
	c := concat(source(1), a, source(2))
	twice := concat(x, x)
	return map[string]test{
		"a source":          {source(5), []api.Node{out(), from(5, 0, 0)}},
		"a negation":        {negate(a), []api.Node{out(), by(negate(a), 0, 0), from(0, 1, 0)}},
		"a join":            {j, []api.Node{out(), by(j, 0, 0), from(0, 1, 0), by(negate(a), 1, 1), from(0, 3, 0)}},
		"a map":             {m, []api.Node{out(), by(m, 0, 0), from(0, 1, 0)}},
		"a filter":          {f, []api.Node{out(), by(f, 0, 0), from(7, 1, 0)}},
		"a reduction":       {distinct(r), []api.Node{out(), by(distinct(a), 0, 0), by(r, 1, 0), from(3, 2, 0)}},
		"a concatenation":   {c, []api.Node{out(), by(c, 0, 0), from(1, 1, 0), from(0, 1, 0), from(2, 1, 0)}},
		"a join of joins":   {negate(mapped(join(mapped(j), mapped(j), nil, nil))), []api.Node{out(), by(negate(a), 0, 0), by(mapped(a), 1, 0), by(join(a, a, nil, nil), 2, 0), by(mapped(a), 3, 0), by(j, 4, 0), from(0, 5, 0), by(negate(a), 5, 1), from(0, 7, 0), by(mapped(a), 3, 1), by(j, 9, 0), from(0, 10, 0), by(negate(a), 10, 1), from(0, 12, 0)}},
		"an iteration":      {iterate(4, a, twice), []api.Node{out(), begin(0, 4, 2, 4, 0, 4, 0), leave(0, 4, 0, 0), from(0, 1, 0), by(twice, 1, 1)}},
		"one that stays":    {iterate(16, a, x), []api.Node{out(), begin(0, 16, 2, 1, 1), leave(0, 16, 0, 0), from(0, 1, 0)}},
		"one without loop":  {iterate(1, a, source(1)), []api.Node{out(), begin(0, 1, 2), leave(0, 1, 0, 0), from(0, 1, 0), from(1, 1, 1)}},
		"one in a join":     {mapped(join(a, iterate(2, a, negate(x)), nil, nil), col(0)), []api.Node{out(), by(mapped(a, col(0)), 0, 0), by(join(a, a, nil, nil), 1, 0), from(0, 2, 0), begin(0, 2, 5, 7, 0), leave(0, 2, 2, 1), from(0, 4, 0), by(negate(a), 4, 1)}},
		"one behind one":    {concat(iterate(2, a, x), iterate(3, a, negate(x))), []api.Node{out(), by(concat(), 0, 0), begin(0, 2, 3, 2, 1), leave(0, 2, 1, 0), from(0, 2, 0), begin(0, 3, 6, 8, 0), leave(0, 3, 1, 0), from(0, 5, 0), by(negate(a), 5, 1)}},
		"one of another":    {iterate(5, iterate(6, a, x), negate(x)), []api.Node{out(), begin(0, 5, 2, 6, 0), leave(0, 5, 0, 0), begin(0, 6, 4, 3, 1), leave(0, 6, 1, 0), from(0, 3, 0), by(negate(a), 1, 1)}},
		"one in another":    {iterate(5, a, iterate(6, x, concat(y, x, negate(y)))), []api.Node{out(), begin(0, 5, 2, 4, 0, 6, 0, 7, 0), leave(0, 5, 0, 0), from(0, 1, 0), begin(1, 6, 5, 6, 0), leave(1, 6, 1, 1), by(concat(), 4, 1), by(negate(a), 6, 0)}},
		"behind an inner":   {iterate(5, a, concat(iterate(6, a, x), x, iterate(7, x, y))), []api.Node{out(), begin(0, 5, 2, 4, 0, 8, 0, 8, 1), leave(0, 5, 0, 0), from(0, 1, 0), by(concat(), 1, 1), begin(1, 6, 6, 5, 1), leave(1, 6, 4, 0), from(0, 5, 0), begin(1, 7, 9), leave(1, 7, 4, 0)}},
		"in what is first":  {iterate(5, a, iterate(6, iterate(7, negate(x), concat(x, y)), x)), []api.Node{out(), begin(0, 5, 2, 8, 0, 9, 0), leave(0, 5, 0, 0), from(0, 1, 0), begin(1, 6, 5, 4, 1), leave(1, 6, 1, 1), begin(1, 7, 7, 9, 0), leave(1, 7, 4, 0), by(negate(a), 6, 0), by(concat(), 6, 1)}},
		"a join of a loop":  {iterate(3, a, mapped(join(x, negate(x), nil, nil), col(1))), []api.Node{out(), begin(0, 3, 2, 5, 0, 6, 0), leave(0, 3, 0, 0), from(0, 1, 0), by(mapped(a, col(1)), 1, 1), by(join(a, a, nil, nil), 4, 0), by(negate(a), 5, 1)}},
		"a join with loops": {iterate(3, a, mapped(join(negate(a), x, nil, nil), col(1))), []api.Node{out(), begin(0, 3, 2, 5, 1), leave(0, 3, 0, 0), from(0, 1, 0), by(mapped(a, col(1)), 1, 1), by(join(a, a, nil, nil), 4, 0), by(negate(a), 5, 0), from(0, 6, 0)}},
	}
}

// 14.1, 14.4, with the document's examples.
func TestBuild(t *testing.T) {
	for name, x := range built() {
		l, why := graph.Build(x.plan, schemas(8))
		if !same(l, x.want) || why != api.OK {
			t.Errorf("%s: %s, error %d; want %s", name, show(l), why, show(x.want))
		}
		if why := graph.Check(l); why != api.OK {
			t.Errorf("%s: Check: error %d", name, why)
		}
	}
}

// 14.1: the error is that of plan.Infer.
func TestBuildWrong(t *testing.T) {
	a, text := source(0), api.Expr{Op: api.ExprConst, Const: api.Value{IsText: true}}
	if l, why := graph.Build(variable(0), schemas(1)); len(l) > 0 || why != api.ErrRange {
		t.Errorf("a variable: %s, error %d", show(l), why)
	}
	for _, x := range []struct {
		plan    api.Plan
		sources [][]api.Type
		want    api.Errno
	}{
		{api.Plan{}, schemas(1), api.ErrForm},
		{api.Plan{Kind: api.PlanCount}, schemas(1), api.ErrForm},
		{a, nil, api.ErrRange},
		{source(-1), schemas(1), api.ErrRange},
		{source(1), schemas(1), api.ErrRange},
		{a, [][]api.Type{{api.TypeNone}}, api.ErrForm},
		{a, schemas(maxSources + 1), api.ErrForm},
		{source(maxSources), schemas(maxSources), api.ErrRange},
		{negate(variable(0)), schemas(1), api.ErrRange},
		{iterate(3, variable(0), a), schemas(1), api.ErrRange},
		{iterate(3, a, variable(1)), schemas(1), api.ErrRange},
		{iterate(3, a, variable(-1)), schemas(1), api.ErrRange},
		{iterate(0, a, a), schemas(1), api.ErrForm},
		{iterate(maxRounds+1, a, a), schemas(1), api.ErrForm},
		{iterate(3, a, mapped(a)), schemas(1), api.ErrType},
		{concat(), schemas(1), api.ErrForm},
		{join(a, a, []int{0}, nil), schemas(1), api.ErrType},
		{filter(a, text), schemas(1), api.ErrType},
		{reduce(a, api.AggTop, 0), schemas(1), api.ErrRange},
		{reduce(a, api.AggNone, 0), schemas(1), api.ErrForm},
		{iterate(1, a, iterate(1, a, iterate(1, a, a))), schemas(1), api.ErrLong},
		{deep(maxDepth, a), schemas(1), api.ErrLong},
		{concat(slices.Repeat([]api.Plan{a}, maxNodes)...), schemas(1), api.ErrLong},
	} {
		if _, why := plan.Infer(x.plan, x.sources); why != x.want {
			t.Errorf("kind %d for %d: Infer: error %d, want %d", x.plan.Kind, x.sources, why, x.want)
		}
		if l, why := graph.Build(x.plan, x.sources); len(l) > 0 || why != x.want {
			t.Errorf("kind %d for %d: %s, error %d, want %d", x.plan.Kind, x.sources, show(l), why, x.want)
		}
	}
}

// possible is lists of nodes that are possible.
func possible() map[string][]api.Node {
	m := map[string][]api.Node{
		"a NodeOut":               {out()},
		"one that leads nowhere":  {out(), {Kind: api.NodeSource}},
		"an end that goes on":     {{Kind: api.NodeOut, To: to(0, 0, 1, 0, 1, 1)}, by(join(api.Plan{}, api.Plan{}, nil, nil), 0, 0)},
		"nodes in circles":        {out(), by(negate(source(0)), 2, 0), by(distinct(source(0)), 1, 0)},
		"one port several times":  {out(), {Kind: api.NodeSource, To: to(0, 0, 0, 0)}},
		"a loop of its own":       {out(), begin(1, 16, 1, 1, 0, 1, 1, 0, 0)},
		"a leaving without loop":  {out(), leave(1, 16, 1, 0)},
		"the last source":         {out(), from(maxSources-1, 0, 0)},
		"a source to a loop":      {out(), begin(0, 1, 0), from(0, 1, 1)},
		"as many as may be":       append([]api.Node{out()}, slices.Repeat([]api.Node{leave(0, 1, 0, 0)}, 2*maxNodes)...),
		"a map of many":           {out(), by(mapped(source(0), slices.Repeat([]api.Expr{col(-1)}, 99)...), 0, 0)},
		"any columns":             {out(), by(reduce(source(0), api.AggSum, -7, -1, 99), 0, 0), by(join(source(0), source(0), []int{77}, nil), 1, 0)},
		"empty lists for nothing": {{Kind: api.NodeOut, Plan: api.Plan{Kids: []api.Plan{}, Exprs: []api.Expr{}, Cols: []int{}, With: []int{}}, To: []api.Port{}, Back: []api.Port{}}, {Kind: api.NodePlan, Plan: api.Plan{Kind: api.PlanNegate, Kids: []api.Plan{}}}},
	}
	for name, x := range built() {
		m[name] = x.want
	}
	return m
}

// with is a list of nodes of which one is changed.
func with(l []api.Node, i int, change func(*api.Node)) []api.Node {
	l = slices.Clone(l)
	change(&l[i])
	return l
}

// foreign is what makes a node impossible that has nothing of the kind: what another kind has.
func foreign() map[string]func(*api.Node) {
	return map[string]func(*api.Node){
		"Plan.Kind":   func(n *api.Node) { n.Plan.Kind = api.PlanNegate },
		"Plan.N":      func(n *api.Node) { n.Plan.N = 1 },
		"Plan.Kids":   func(n *api.Node) { n.Plan.Kids = []api.Plan{source(0)} },
		"Plan.Exprs":  func(n *api.Node) { n.Plan.Exprs = make([]api.Expr, 1) },
		"Plan.Cols":   func(n *api.Node) { n.Plan.Cols = make([]int, 1) },
		"Plan.With":   func(n *api.Node) { n.Plan.With = make([]int, 1) },
		"Plan.Agg":    func(n *api.Node) { n.Plan.Agg = api.AggCount },
		"Plan.Rounds": func(n *api.Node) { n.Plan.Rounds = 1 },
		"N":           func(n *api.Node) { n.N = 1 },
		"N below 0":   func(n *api.Node) { n.N = -1 },
		"Loop":        func(n *api.Node) { n.Loop = 1 },
		"Rounds":      func(n *api.Node) { n.Rounds = 1 },
		"Back":        func(n *api.Node) { n.Back = to(0, 0) },
	}
}

// own is what a kind of nodes has, which may be changed.
func own(kind api.NodeKind, name string) bool {
	switch kind {
	case api.NodePlan:
		return name[0] == 'P'
	case api.NodeSource:
		return name[0] == 'N'
	case api.NodeLoop:
		return name[0] == 'L' || name[0] == 'R' || name[0] == 'B'
	case api.NodeLeave:
		return name[0] == 'L' || name[0] == 'R'
	}
	return false
}

func wantForm(t *testing.T, name string, l []api.Node) {
	t.Helper()
	if why := graph.Check(l); why != api.ErrForm {
		t.Errorf("%s: %s: error %d", name, show(l), why)
	}
	if n := graph.Bound(l); n != 0 {
		t.Errorf("%s: %s: bound %d", name, show(l), n)
	}
}

// 14.2
func TestCheck(t *testing.T) {
	for name, l := range possible() {
		if why := graph.Check(l); why != api.OK {
			t.Errorf("%s: %s: error %d", name, show(l), why)
		}
	}
	wantForm(t, "no nodes", nil)
	wantForm(t, "one more than may be", append(possible()["as many as may be"], leave(0, 1, 0, 0)))
	wantForm(t, "no NodeOut", []api.Node{{Kind: api.NodeSource}})
	for name, l := range possible() {
		if len(l) > 20 {
			continue
		}
		wantForm(t, name+", the first one is missing", l[1:])
		wantForm(t, name+", and a second NodeOut", append(slices.Clone(l), out()))
		if len(l) > 1 {
			wantForm(t, name+", the NodeOut last", append(slices.Clone(l[1:]), l[0]))
		}
		for i := range l {
			for field, change := range foreign() {
				if !own(l[i].Kind, field) {
					wantForm(t, fmt.Sprintf("%s, node %d with %s", name, i, field), with(l, i, change))
				}
			}
			for k := range 256 {
				if kind := api.NodeKind(k); kind == api.NodeNone || kind >= api.NodeCount || kind == api.NodeOut && i > 0 || kind != api.NodeOut && i == 0 {
					wantForm(t, fmt.Sprintf("%s, node %d of the kind %d", name, i, k), with(l, i, func(n *api.Node) { n.Kind = kind }))
				}
			}
		}
	}
}

// 14.2
func TestCheckNumbers(t *testing.T) {
	loop, source := []api.Node{out(), begin(0, 1, 0), leave(0, 1, 0, 0)}, []api.Node{out(), from(0, 0, 0)}
	for n := range 20 {
		for _, n := range []int{n, -n, math.MaxInt - n, math.MinInt + n} {
			for i := 1; i < 3; i++ {
				l := with(loop, i, func(x *api.Node) { x.Rounds = n })
				if ok := n >= 1 && n <= maxRounds; (graph.Check(l) == api.OK) != ok {
					t.Errorf("%s: error %d", show(l), graph.Check(l))
				}
				l = with(loop, i, func(x *api.Node) { x.Loop = n })
				if ok := n >= 0 && n < maxLoops; (graph.Check(l) == api.OK) != ok {
					t.Errorf("%s: error %d", show(l), graph.Check(l))
				}
			}
			l := with(source, 1, func(x *api.Node) { x.N = n })
			if ok := n >= 0 && n < maxSources; (graph.Check(l) == api.OK) != ok {
				t.Errorf("%s: error %d", show(l), graph.Check(l))
			}
		}
	}
}

// 14.2: the plans of nodes.
func TestCheckPlans(t *testing.T) {
	text := api.Expr{Op: api.ExprConst, Const: api.Value{IsText: true, N: 1}}
	long := col(0)
	for range maxDepth {
		long = not(long)
	}
	kid := negate(source(0))
	var circle api.Expr = not(col(0))
	circle.Kids[0] = circle
	bad := []api.Plan{
		{Kind: api.PlanNegate, Kids: []api.Plan{source(0)}}, join(source(0), source(0), nil, nil), concat(kid),
		{Kind: api.PlanNegate, N: 1}, {Kind: api.PlanNegate, Cols: []int{0}}, {Kind: api.PlanConcat, Rounds: 1}, {Kind: api.PlanDistinct, Agg: api.AggCount},
		{Kind: api.PlanFilter}, {Kind: api.PlanFilter, Exprs: []api.Expr{col(0), col(0)}}, {Kind: api.PlanFilter, Exprs: []api.Expr{text}}, {Kind: api.PlanMap, Exprs: []api.Expr{{}}},
		{Kind: api.PlanMap, Exprs: []api.Expr{col(0), long}}, {Kind: api.PlanMap, Exprs: []api.Expr{circle}}, {Kind: api.PlanMap, With: []int{0}},
		{Kind: api.PlanReduce}, {Kind: api.PlanReduce, Agg: api.AggCountKinds}, {Kind: api.PlanReduce, Agg: api.AggCount, N: 1}, {Kind: api.PlanReduce, Agg: api.AggTop, With: []int{0}},
		{Kind: api.PlanIterate, Rounds: 1}, {Kind: api.PlanIterate}, {Kind: api.PlanSource, N: 1}, {Kind: api.PlanVar, N: 1}, {Kind: api.PlanJoin, N: 1}, {Kind: api.PlanJoin, Rounds: 1},
	}
	for k := range 256 {
		switch p := (api.Plan{Kind: api.PlanKind(k)}); p.Kind {
		case api.PlanMap, api.PlanConcat, api.PlanNegate, api.PlanJoin, api.PlanDistinct:
			if l := []api.Node{out(), by(p, 0, 0)}; graph.Check(l) != api.OK {
				t.Errorf("%s: error %d", show(l), graph.Check(l))
			}
		default:
			bad = append(bad, p)
		}
	}
	for _, p := range bad {
		wantForm(t, "a plan", []api.Node{out(), {Kind: api.NodePlan, Plan: p}})
		wantForm(t, "a plan", []api.Node{out(), from(0, 0, 0), {Kind: api.NodePlan, Plan: p, To: to(0, 0)}})
	}
	if l := []api.Node{out(), by(mapped(source(0), long.Kids[0]), 0, 0)}; graph.Check(l) != api.OK {
		t.Errorf("an expression as deep as may be: error %d", graph.Check(l))
	}
}

// 14.2: where nodes may go.
func TestCheckPorts(t *testing.T) {
	j := join(source(0), source(0), nil, nil)
	// The nodes' numbers of ports.
	l := []api.Node{out(), by(j, 0, 0), by(negate(source(0)), 0, 0), from(0, 0, 0), begin(0, 1, 0), leave(0, 1, 0, 0), by(concat(source(0)), 0, 0), by(mapped(source(0)), 0, 0)}
	ports := []int{1, 2, 1, 0, 2, 1, 1, 1}
	for i := range l {
		for node := -2; node < len(l)+2; node++ {
			for port := -2; port < 4; port++ {
				ok := node >= 0 && node < len(l) && port >= 0 && port < ports[node]
				p := api.Port{Node: node, Port: port}
				lists := [][]api.Node{with(l, i, func(n *api.Node) { n.To = []api.Port{p} }), with(l, i, func(n *api.Node) { n.To = []api.Port{{}, p, {}} })}
				if l[i].Kind == api.NodeLoop {
					lists = append(lists, with(l, i, func(n *api.Node) { n.Back = []api.Port{p} }), with(l, i, func(n *api.Node) { n.Back = []api.Port{{}, {}, p} }))
				}
				for _, l := range lists {
					if (graph.Check(l) == api.OK) != ok {
						t.Errorf("%d to %d: error %d", i, p, graph.Check(l))
					}
				}
			}
		}
	}
	for _, p := range []api.Port{{Node: math.MinInt}, {Node: math.MaxInt}, {Port: math.MinInt}, {Port: math.MaxInt}, {Node: 1 << 32}, {Port: 1 << 32}} {
		wantForm(t, fmt.Sprint(p), with(l, 2, func(n *api.Node) { n.To = []api.Port{p} }))
	}
}

// 14.2
func TestBound(t *testing.T) {
	loops := func(rounds ...int) []api.Node {
		l := []api.Node{out()}
		for _, n := range rounds {
			l = append(l, begin(0, n, 0))
		}
		return l
	}
	for _, x := range []struct {
		l    []api.Node
		want int
	}{
		{built()["an iteration"].want, 25},
		{built()["a negation"].want, 3},
		{built()["one in another"].want, 8 * 6 * 7},
		{built()["one behind one"].want, 9 * 3 * 4},
		{loops(), 1},
		{loops(1), 4},
		{loops(16, 15, 7), 4 * 17 * 16 * 8},
		// 32 nodes: 2^5.
		{loops(slices.Repeat([]int{1}, 31)...), 1 << 36},
		{append(loops(slices.Repeat([]int{1}, 30)...), leave(0, 16, 0, 0)), 1 << 35},
		{loops(append(slices.Repeat([]int{1}, 30), 9)...), 10 << 35},
		// 64 nodes: 2^6; after 34 loops of 2 it is 2^40, which is enough.
		{loops(slices.Repeat([]int{1}, 63)...), 1 << 40},
		{loops(slices.Repeat([]int{3}, 63)...), 1 << 40},
		// 16 nodes: 2^4, and 11 times 2^3 are 2^37; 2^41 is not reached by 2^37 times 8 and what follows.
		{loops(append(slices.Repeat([]int{7}, 11), 7, 7, 7, 7)...), 1 << 40},
		{loops(append(slices.Repeat([]int{7}, 11), 3, 15, 15, 15)...), 1 << 43},
		{loops(append(slices.Repeat([]int{7}, 11), 3, 16, 1, 1)...), 17 << 39},
		{loops(append(slices.Repeat([]int{7}, 11), 7, 16, 1, 1)...), 1 << 40},
		{nil, 0},
		{loops(0), 0},
		{loops(17), 0},
	} {
		if n := graph.Bound(x.l); n != x.want {
			t.Errorf("%s: %d, want %d", show(x.l), n, x.want)
		}
	}
}

// How many ports a node has to which updates may be led: as Check has it.
func TestEntries(t *testing.T) {
	for _, x := range []struct {
		node api.Node
		want int
	}{
		{out(), 1},
		{from(0, 0, 0), 0},
		{begin(0, 1, 0), 2},
		{leave(0, 1, 0, 0), 1},
		{by(join(source(0), source(0), nil, nil), 0, 0), 2},
		{by(negate(source(0)), 0, 0), 1},
		{by(distinct(source(0)), 0, 0), 1},
	} {
		if n := graph.Entries(x.node); n != x.want {
			t.Errorf("%s: %d entries, want %d", show([]api.Node{x.node}), n, x.want)
		}
		for port := range 3 {
			l := []api.Node{out(), x.node, by(negate(source(0)), 1, port)}
			if why := graph.Check(l); x.node.Kind != api.NodeOut && (why == api.OK) != (port < x.want) {
				t.Errorf("%s: to port %d: error %d", show(l), port, why)
			}
		}
	}
}
