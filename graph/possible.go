package graph

import (
	"freshet/api"
	"freshet/plan"
)

// possible reports whether a node has what its kind has, and nothing else; where it goes does not matter.
func possible(n api.Node) bool {
	ok := false
	// What a kind has is taken from the node; then nothing must be left.
	switch n.Kind {
	case api.NodePlan:
		ok, n.Plan = operator(n.Plan), api.Plan{}
	case api.NodeSource:
		ok, n.N = n.N >= 0 && n.N < api.MaxSources, 0
	case api.NodeLoop:
		ok = loops(n)
		n.Loop, n.Rounds, n.Back = 0, 0, nil
	case api.NodeLeave:
		ok = loops(n)
		n.Loop, n.Rounds = 0, 0
	case api.NodeOut:
		ok = true
	}
	return ok && nothing(n.Plan) && n.N == 0 && n.Loop == 0 && n.Rounds == 0 && len(n.Back) == 0
}

// operator reports whether a plan without Kids is the one of a node.
func operator(p api.Plan) bool {
	if len(p.Kids) > 0 {
		return false
	}
	source := api.Plan{Kind: api.PlanSource}
	p.Kids = []api.Plan{source}
	if p.Kind == api.PlanJoin {
		p.Kids = []api.Plan{source, source}
	}
	return plan.Check(p) == api.OK
}

func loops(n api.Node) bool {
	return n.Loop >= 0 && n.Loop < api.MaxLoops && n.Rounds >= 1 && n.Rounds <= api.MaxRounds
}

func nothing(p api.Plan) bool {
	return p.Kind == api.PlanNone && p.N == 0 && len(p.Kids) == 0 && len(p.Exprs) == 0 && len(p.Cols) == 0 && len(p.With) == 0 && p.Agg == api.AggNone && p.Rounds == 0
}

// lead reports whether there are all of these ports.
func lead(l []api.Node, ports []api.Port) bool {
	for _, p := range ports {
		if p.Node < 0 || p.Node >= len(l) || p.Port < 0 || p.Port >= Entries(l[p.Node]) {
			return false
		}
	}
	return true
}

// Entries returns how many ports a node has to which updates may be led.
func Entries(n api.Node) int {
	switch {
	case n.Kind == api.NodeSource:
		return 0
	case n.Kind == api.NodeLoop, n.Kind == api.NodePlan && n.Plan.Kind == api.PlanJoin:
		return 2
	}
	return 1
}
