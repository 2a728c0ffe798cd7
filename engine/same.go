package engine

import (
	"slices"

	"freshet/api"
)

// sameNodes reports whether nodes are the same; a list of nothing is the same as none.
func sameNodes(a, b []api.Node) bool {
	return slices.EqualFunc(a, b, sameNode)
}

func sameNode(a, b api.Node) bool {
	return a.Kind == b.Kind && samePlan(a.Plan, b.Plan) && a.N == b.N && a.Loop == b.Loop && a.Rounds == b.Rounds && slices.Equal(a.To, b.To) && slices.Equal(a.Back, b.Back)
}

func samePlan(a, b api.Plan) bool {
	return a.Kind == b.Kind && a.N == b.N && slices.EqualFunc(a.Kids, b.Kids, samePlan) && slices.EqualFunc(a.Exprs, b.Exprs, sameExpr) &&
		slices.Equal(a.Cols, b.Cols) && slices.Equal(a.With, b.With) && a.Agg == b.Agg && a.Rounds == b.Rounds
}

func sameExpr(a, b api.Expr) bool {
	return a.Op == b.Op && a.Col == b.Col && a.Const == b.Const && slices.EqualFunc(a.Kids, b.Kids, sameExpr)
}
