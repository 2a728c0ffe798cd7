package mean

import (
	"slices"

	"freshet/api"
	"freshet/diff"
	"freshet/expr"
)

// each returns what is made of each count, together; of which nothing is made, there is a count with the N 0.
func each(l []api.Count, from func(api.Count) (api.Count, api.Errno)) ([]api.Count, api.Errno) {
	made := make([]api.Count, len(l))
	for i, c := range l {
		x, why := from(c)
		if why != api.OK {
			return nil, why
		}
		made[i] = x
	}
	return diff.Merge(made)
}

// maker is the function by which a PlanMap, a PlanFilter or a PlanNegate makes one count of another one.
func maker(p *api.Plan) func(api.Count) (api.Count, api.Errno) {
	switch p.Kind {
	case api.PlanMap:
		return func(c api.Count) (api.Count, api.Errno) {
			row, why := Values(p.Exprs, c.Row)
			return api.Count{Row: row, N: c.N}, why
		}
	case api.PlanFilter:
		return func(c api.Count) (api.Count, api.Errno) {
			ok, why := Holds(p.Exprs, c.Row)
			if !ok {
				c.N = 0
			}
			return c, why
		}
	}
	return func(c api.Count) (api.Count, api.Errno) {
		n, why := diff.Times(c.N, -1)
		return api.Count{Row: c.Row, N: n}, why
	}
}

// Values returns the row of what expressions come to for a row, or the first error of expr.Eval; of more expressions than a row has values, ErrForm.
func Values(exprs []api.Expr, row []api.Value) ([]api.Value, api.Errno) {
	if len(exprs) > api.MaxCols {
		return nil, api.ErrForm
	}
	var l []api.Value
	for _, e := range exprs {
		v, why := expr.Eval(e, row)
		if why != api.OK {
			return nil, why
		}
		l = append(l, v)
	}
	return l, api.OK
}

// Holds reports whether each of expressions comes to a number other than 0 for a row, or returns the error of Values.
func Holds(exprs []api.Expr, row []api.Value) (bool, api.Errno) {
	l, why := Values(exprs, row)
	if why != api.OK {
		return false, why
	}
	return !slices.ContainsFunc(l, func(v api.Value) bool { return v.IsText || v.N == 0 }), api.OK
}
