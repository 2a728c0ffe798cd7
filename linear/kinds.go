package linear

import (
	"freshet/api"
	"freshet/diff"
	"freshet/mean"
)

// maker makes what a plan makes of one update, at the same time.
type maker func(api.Plan, api.Update) (api.Update, api.Errno)

// makers is those of the kinds that process updates one by one.
func makers() map[api.PlanKind]maker {
	return map[api.PlanKind]maker{
		api.PlanMap:    mapped,
		api.PlanFilter: filtered,
		api.PlanConcat: kept,
		api.PlanNegate: negated,
	}
}

func mapped(p api.Plan, u api.Update) (api.Update, api.Errno) {
	row, why := mean.Values(p.Exprs, u.Row)
	u.Row = row
	return u, why
}

// filtered is an update with the Diff 0 if it is left out.
func filtered(p api.Plan, u api.Update) (api.Update, api.Errno) {
	ok, why := mean.Holds(p.Exprs, u.Row)
	if !ok {
		u.Diff = 0
	}
	return u, why
}

func kept(_ api.Plan, u api.Update) (api.Update, api.Errno) {
	return u, api.OK
}

func negated(_ api.Plan, u api.Update) (api.Update, api.Errno) {
	n, why := diff.Times(u.Diff, -1)
	u.Diff = n
	return u, why
}
