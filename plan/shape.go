package plan

import (
	"math"

	"freshet/api"
)

// span is the numbers from least to most.
type span struct {
	least, most int
}

func (s span) has(n int) bool {
	return s.least <= n && n <= s.most
}

// shape is what a plan may have in its fields: of lists how many elements, of numbers which ones.
type shape struct {
	kids, exprs, cols, with span
	n, agg, rounds          span
}

// nothing is the shape of what is no plan.
func nothing() shape {
	return shape{kids: span{1, 0}}
}

// shapeOf is the shape of plans of the kind of p.
func shapeOf(p *api.Plan) shape {
	one, two := span{1, 1}, span{2, 2}
	list, number := span{0, math.MaxInt}, span{math.MinInt, math.MaxInt}
	switch p.Kind {
	case api.PlanSource, api.PlanVar:
		return shape{n: number}
	case api.PlanMap:
		return shape{kids: one, exprs: list}
	case api.PlanFilter:
		return shape{kids: one, exprs: one}
	case api.PlanConcat:
		return shape{kids: span{1, math.MaxInt}}
	case api.PlanNegate, api.PlanDistinct:
		return shape{kids: one}
	case api.PlanJoin:
		return shape{kids: two, cols: list, with: list}
	case api.PlanReduce:
		s := shape{kids: one, cols: list, agg: span{int(api.AggCount), int(api.AggTop)}}
		if p.Agg != api.AggCount {
			s.n = number
		}
		return s
	case api.PlanIterate:
		return shape{kids: two, rounds: span{1, api.MaxRounds}}
	}
	return nothing()
}

func (s shape) fits(p *api.Plan) bool {
	return s.kids.has(len(p.Kids)) && s.exprs.has(len(p.Exprs)) && s.cols.has(len(p.Cols)) && s.with.has(len(p.With)) &&
		s.n.has(p.N) && s.agg.has(int(p.Agg)) && s.rounds.has(p.Rounds)
}
