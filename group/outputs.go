package group

import (
	"cmp"

	"freshet/api"
	"freshet/diff"
	"freshet/linear"
	"freshet/mean"
)

// outputs gathers what a plan produces of a group.
type outputs struct {
	linear.Producer
	plan  api.Plan
	key   []api.Value
	given history
	told  history     // what was produced so far
	there []api.Count // the contents at one time: for the next one, their memory is used again
}

// tell produces the output of l.
func (o *outputs) tell(l []api.Update) {
	o.given = historyOf(l)
	for _, t := range times(l) {
		rows, why := o.result(t)
		if why == api.OK {
			rows, why = o.missing(rows, t)
		}
		if why != api.OK {
			o.Fail(t)
			continue
		}
		for _, c := range rows {
			u := api.Update{Row: c.Row, Time: t, Diff: c.N}
			o.told.add(u)
			o.Produce(u, api.OK)
		}
	}
}

// result is that of the group at t.
func (o *outputs) result(t api.Time) ([]api.Count, api.Errno) {
	l, why := o.given.at(t, o.there[:0])
	if len(l) == 0 {
		return nil, why
	}
	o.there = l
	return mean.Group(o.plan, o.key, l)
}

// missing is what has to be produced at t, so that there is what is wanted.
func (o *outputs) missing(wanted []api.Count, t api.Time) ([]api.Count, api.Errno) {
	had, why := o.told.at(t, nil)
	for i, c := range had {
		n, over := diff.Times(c.N, -1)
		had[i].N = n
		why = cmp.Or(why, over)
	}
	if why != api.OK {
		return nil, why
	}
	return diff.Merge(wanted, had)
}

// renewal gathers what takes the place of the outputs of groups.
type renewal struct {
	linear.Producer
}

// renew produces the output of a group as it is now, and takes back that of before, whose failures were told then; or it returns ErrForm if one of them has no output.
func (r *renewal) renew(p api.Plan, key []api.Value, before, now []api.Update) api.Errno {
	old, _, bad := Tell(p, key, before)
	made, t, why := Tell(p, key, now)
	if bad == api.ErrForm || why == api.ErrForm {
		return api.ErrForm
	}
	if why != api.OK {
		r.Fail(t)
	}
	for _, u := range made {
		r.Produce(u, api.OK)
	}
	for _, u := range old {
		n, over := diff.Times(u.Diff, -1)
		u.Diff = n
		r.Produce(u, over)
	}
	return api.OK
}
