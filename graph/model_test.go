package graph_test

import (
	"fmt"
	"runtime"
	"slices"
	"testing"

	"freshet/api"
	"freshet/graph"
	"freshet/plan"
)

// chance is numbers that look like chance, the same ones each time.
type chance uint64

func (c *chance) below(n int) int {
	*c ^= *c << 13
	*c ^= *c >> 7
	*c ^= *c << 17
	return int(uint64(*c) >> 16 % uint64(n))
}

// pick is one of several.
func pick[T any](c *chance, l ...T) T {
	return l[c.below(len(l))]
}

// anyPlan is a plan of rows of one number, within so many loops.
func anyPlan(c *chance, size, loops int) api.Plan {
	if size < 2 {
		if n := c.below(loops + 1); n < loops {
			return variable(n)
		}
		return source(c.below(maxSources))
	}
	kid := func() api.Plan { return anyPlan(c, size-1, loops) }
	half := func() api.Plan { return anyPlan(c, c.below(size), loops) }
	switch c.below(10) {
	case 0:
		return mapped(kid(), not(not(col(0))))
	case 1:
		return filter(kid(), not(col(0)))
	case 2:
		return concat(half(), half(), half())
	case 3:
		return distinct(kid())
	case 4, 5:
		return mapped(join(half(), half(), []int{0}, []int{0}), col(c.below(2)))
	case 6:
		return reduce(kid(), api.AggTop, 1+c.below(8), 0)
	case 7, 8:
		return iterate(1+c.below(maxRounds), half(), anyPlan(c, c.below(size), loops+1))
	}
	return negate(kid())
}

// size is how many nodes a plan has, as it is written down.
func size(p api.Plan) int {
	n := 1
	if p.Kind == api.PlanVar {
		return 0
	}
	if p.Kind == api.PlanIterate {
		n = 2
	}
	for _, k := range p.Kids {
		n += size(k)
	}
	return n
}

// lay writes the nodes of a plan to their places, of which the first one is given; loops is the places of those around it, the nearest one last.
func lay(l []api.Node, p api.Plan, place int, port api.Port, loops []int) {
	inner := place + 1
	switch p.Kind {
	case api.PlanVar:
		loop := loops[len(loops)-1-p.N]
		l[loop].Back = append(l[loop].Back, port)
		return
	case api.PlanSource:
		l[place] = api.Node{Kind: api.NodeSource, N: p.N, To: []api.Port{port}}
		return
	case api.PlanIterate:
		l[place] = api.Node{Kind: api.NodeLoop, Loop: len(loops), Rounds: p.Rounds, To: to(place+1, 0)}
		l[place+1] = api.Node{Kind: api.NodeLeave, Loop: len(loops), Rounds: p.Rounds, To: []api.Port{port}}
		inner++
	default:
		bare := p
		bare.Kids = nil
		l[place] = api.Node{Kind: api.NodePlan, Plan: bare, To: []api.Port{port}}
	}
	for i, k := range p.Kids {
		around := loops
		if p.Kind == api.PlanIterate && i == 1 {
			around = append(slices.Clone(loops), place)
		}
		in := api.Port{Node: place}
		if p.Kind == api.PlanIterate || p.Kind == api.PlanJoin {
			in.Port = i
		}
		lay(l, k, inner, in, around)
		inner += size(k)
	}
}

// parts is how many plans there are in one that are no variables, and how many of them iterate.
func parts(p api.Plan) (int, int) {
	n, loops := 0, 0
	if p.Kind != api.PlanVar {
		n++
	}
	if p.Kind == api.PlanIterate {
		loops++
	}
	for _, k := range p.Kids {
		a, b := parts(k)
		n, loops = n+a, loops+b
	}
	return n, loops
}

// 14.1, 14.2, 14.4
func TestBuildModel(t *testing.T) {
	c := chance(3)
	right := 0
	for range 20000 {
		p := anyPlan(&c, 2+c.below(9), 0)
		if _, why := plan.Infer(p, schemas(maxSources)); why != api.OK {
			if l, no := graph.Build(p, schemas(maxSources)); len(l) > 0 || no != why {
				t.Fatalf("%s, error %d, want %d", show(l), no, why)
			}
			continue
		}
		right++
		l, why := graph.Build(p, schemas(maxSources))
		want := make([]api.Node, 1+size(p))
		want[0].Kind = api.NodeOut
		lay(want, p, 1, api.Port{}, nil)
		if !same(l, want) || why != api.OK {
			t.Fatalf("%s, error %d; want %s", show(l), why, show(want))
		}
		if n, loops := parts(p); len(l) != 1+n+loops {
			t.Fatalf("%s: %d nodes of %d plans, of which %d iterate", show(l), len(l), n, loops)
		}
		if why := graph.Check(l); why != api.OK || graph.Bound(l) < len(l) {
			t.Fatalf("%s: error %d, bound %d", show(l), why, graph.Bound(l))
		}
	}
	if right < 10000 {
		t.Errorf("only %d plans were right", right)
	}
}

// 14.4: as many plans as there may be, of which many iterate, or that are as wide or as deep as may be.
func TestBuildMost(t *testing.T) {
	p := concat(slices.Repeat([]api.Plan{iterate(16, source(0), variable(0))}, 21)...)
	l, why := graph.Build(p, schemas(1))
	if len(l) != 1+1+21*3 || why != api.OK || graph.Check(l) != api.OK {
		t.Errorf("%d nodes, errors %d and %d", len(l), why, graph.Check(l))
	}
	if n := graph.Bound(l); n < 1<<40 || n > 17<<40 {
		t.Errorf("bound %d", n)
	}
	wide := concat(slices.Repeat([]api.Plan{source(0)}, maxNodes-1)...)
	if l, why := graph.Build(wide, schemas(1)); len(l) != 1+maxNodes || why != api.OK || graph.Check(l) != api.OK {
		t.Errorf("%d nodes, error %d", len(l), why)
	}
	if l, why := graph.Build(deep(maxDepth-1, source(0)), schemas(1)); len(l) != 1+maxDepth || why != api.OK || graph.Check(l) != api.OK {
		t.Errorf("%d nodes, error %d", len(l), why)
	}
}

// memory is the places of all lists that were seen.
type memory map[any]bool

// add takes up a list up to its capacity, and reports whether all of it is new.
func add[T any](m memory, l []T) bool {
	fresh := true
	for i := range l[:cap(l)] {
		p := &l[:cap(l)][i]
		fresh = fresh && !m[p]
		m[p] = true
	}
	return fresh
}

func (m memory) exprs(l []api.Expr) bool {
	fresh := add(m, l)
	for _, e := range l {
		fresh = m.exprs(e.Kids) && fresh
	}
	return fresh
}

func (m memory) plan(p api.Plan) bool {
	fresh := add(m, p.Kids)
	for _, k := range p.Kids {
		fresh = m.plan(k) && fresh
	}
	return m.exprs(p.Exprs) && add(m, p.Cols) && add(m, p.With) && fresh
}

func (m memory) nodes(l []api.Node) bool {
	fresh := add(m, l)
	for _, n := range l {
		fresh = m.plan(n.Plan) && add(m, n.To) && add(m, n.Back) && fresh
	}
	return fresh
}

// roomy is a list that has room behind its end.
func roomy[T any](l []T) []T {
	return append(slices.Clone(l), make([]T, 2)...)[:len(l)]
}

func roomyExprs(l []api.Expr) []api.Expr {
	l = roomy(l)
	for i, e := range l {
		l[i].Kids = roomyExprs(e.Kids)
	}
	return l
}

func roomyPlan(p api.Plan) api.Plan {
	p.Kids, p.Exprs, p.Cols, p.With = roomy(p.Kids), roomyExprs(p.Exprs), roomy(p.Cols), roomy(p.With)
	for i, k := range p.Kids {
		p.Kids[i] = roomyPlan(k)
	}
	return p
}

func roomyNodes(l []api.Node) []api.Node {
	l = roomy(l)
	for i, n := range l {
		l[i].Plan, l[i].To, l[i].Back = roomyPlan(n.Plan), roomy(n.To), roomy(n.Back)
	}
	return l
}

// whole tells all of a plan, also what is behind the ends of its lists.
func whole(p api.Plan) string {
	s := fmt.Sprint(p.Kind, p.N, p.Agg, p.Rounds, p.Cols[:cap(p.Cols)], p.With[:cap(p.With)])
	s += fmt.Sprintf("%+v", p.Exprs[:cap(p.Exprs)])
	for _, k := range p.Kids[:cap(p.Kids)] {
		s += "(" + whole(k) + ")"
	}
	return s
}

func wholeNodes(l []api.Node) string {
	s := ""
	for _, n := range l[:cap(l)] {
		s += fmt.Sprint(n.Kind, n.N, n.Loop, n.Rounds, n.To[:cap(n.To)], n.Back[:cap(n.Back)], whole(n.Plan))
	}
	return s
}

// 14.3, P3, P4: plans, schemas and nodes are as they were, also behind their ends, and what is answered is new; nothing is left of a call.
func TestNewMemory(t *testing.T) {
	before := runtime.NumGoroutine()
	// A plan of which the parts share their lists.
	exprs := []api.Expr{not(not(col(0)))}
	a := mapped(source(0), exprs...)
	shared := api.Plan{Kind: api.PlanMap, Kids: []api.Plan{a}, Exprs: exprs}
	plans := []api.Plan{{}, variable(0), concat(shared, shared, api.Plan{Kind: api.PlanMap, Kids: shared.Kids, Exprs: exprs[:1:1]})}
	for _, x := range built() {
		plans = append(plans, x.plan)
	}
	for _, p := range plans {
		for _, p := range []api.Plan{p, roomyPlan(p)} {
			sources := roomy(schemas(8))
			told := whole(p) + fmt.Sprint(sources[:cap(sources)])
			m := memory{}
			m.plan(p)
			add(m, sources)
			l, why := graph.Build(p, sources)
			again, _ := graph.Build(p, sources)
			if !m.nodes(l) || !m.nodes(again) {
				t.Errorf("%s, error %d: memory is shared", show(l), why)
			}
			if whole(p)+fmt.Sprint(sources[:cap(sources)]) != told {
				t.Errorf("the plan of %s was changed", show(l))
			}
		}
	}
	for name, l := range possible() {
		for _, l := range [][]api.Node{roomyNodes(l), roomyNodes(with(l, 0, func(n *api.Node) { n.N = 1 }))} {
			told := wholeNodes(l)
			graph.Check(l)
			graph.Bound(l)
			if wholeNodes(l) != told {
				t.Errorf("%s was changed", name)
			}
		}
	}
	if n := runtime.NumGoroutine(); n > before {
		t.Errorf("%d goroutines are left", n-before)
	}
}

// P1: nodes made by hand that lead in circles, or are many, in no long time.
func TestMany(t *testing.T) {
	circle := concat(source(0), source(0))
	circle.Kids[0] = circle
	wantForm(t, "a plan in itself", []api.Node{out(), {Kind: api.NodePlan, Plan: circle}})
	wantForm(t, "very many", make([]api.Node, 1<<20))
	ports := make([]api.Port, 1<<20)
	l := append([]api.Node{out()}, slices.Repeat([]api.Node{{Kind: api.NodeLoop, Rounds: 1, To: ports, Back: ports}}, 2*maxNodes)...)
	if why := graph.Check(l); why != api.OK {
		t.Errorf("many ports: error %d", why)
	}
	ports[1<<20-1].Port = 1
	wantForm(t, "many ports", l)
}
