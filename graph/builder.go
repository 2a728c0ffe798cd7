package graph

import (
	"slices"

	"freshet/api"
	"freshet/copies"
)

// nodes is those that were made so far.
type nodes []api.Node

// add appends a node that goes to some ports, and returns the port 0 of it.
func (l *nodes) add(n api.Node, to ...api.Port) api.Port {
	n.To = to
	*l = append(*l, n)
	return api.Port{Node: len(*l) - 1}
}

// back has a NodeLoop go to a port within its loop.
func (l nodes) back(loop int, to api.Port) {
	l[loop].Back = append(l[loop].Back, to)
}

// builder makes the nodes of a plan that has a schema.
type builder struct {
	nodes
	loops []int // the NodeLoops around the plan, the nearest one first
}

// build appends the nodes of a plan that go to a port.
func (b *builder) build(p *api.Plan, to api.Port) {
	switch p.Kind {
	case api.PlanSource:
		b.add(api.Node{Kind: api.NodeSource, N: p.N}, to)
	case api.PlanVar:
		b.back(b.loops[p.N], to)
	case api.PlanIterate:
		b.iterate(p, to)
	default:
		b.operate(p, to)
	}
}

func (b *builder) operate(p *api.Plan, to api.Port) {
	bare := *p
	bare.Kids = nil
	port := b.add(api.Node{Kind: api.NodePlan, Plan: copies.Plan(bare)}, to)
	for i := range p.Kids {
		b.build(&p.Kids[i], port)
		if p.Kind == api.PlanJoin {
			port.Port++
		}
	}
}

func (b *builder) iterate(p *api.Plan, to api.Port) {
	n := api.Node{Kind: api.NodeLoop, Loop: len(b.loops), Rounds: p.Rounds}
	// The NodeLeave is the next node.
	loop := b.add(n, api.Port{Node: len(b.nodes) + 1})
	n.Kind = api.NodeLeave
	b.add(n, to)
	b.build(&p.Kids[0], loop)
	b.within(loop.Node, &p.Kids[1])
}

// within appends the nodes of a plan that is the next round of a loop.
func (b *builder) within(loop int, p *api.Plan) {
	around := b.loops
	defer func() { b.loops = around }()
	b.loops = slices.Concat([]int{loop}, around)
	b.build(p, api.Port{Node: loop, Port: 1})
}
