package join

import (
	"cmp"
	"slices"
	"sort"

	"freshet/api"
	"freshet/diff"
	"freshet/linear"
	"freshet/moment"
	"freshet/spine"
	"freshet/value"
)

// pairs gathers what matching updates produce.
type pairs struct {
	linear.Producer
}

// match produces the updates of all matching pairs of an update of a and one of b.
func (p *pairs) match(a, b []api.Update) {
	b = slices.Clone(b)
	slices.SortFunc(b, byKey)
next:
	for _, x := range a {
		i := sort.Search(len(b), func(i int) bool { return byKey(b[i], x) >= 0 })
		for _, y := range b[i:] {
			if byKey(x, y) != 0 {
				continue next
			}
			p.pair(x, y)
		}
	}
}

// pair produces the update of two that match.
func (p *pairs) pair(x, y api.Update) {
	row, why := value.Join(x.Row, y.Row)
	n, over := diff.Times(x.Diff, y.Diff)
	p.Produce(api.Update{Row: row, Time: moment.Lub(x.Time, y.Time), Diff: n}, cmp.Or(why, over))
}

// failAll fails for each of l.
func (p *pairs) failAll(l []api.Update) {
	for _, u := range l {
		p.Fail(u.Time)
	}
}

func byKey(a, b api.Update) int {
	return value.Rows(a.Key, b.Key)
}

// matching returns the updates of a spine that match one of l, at least.
func matching(s api.Spine, l []api.Update) ([]api.Update, api.Errno) {
	l = slices.Clone(l)
	slices.SortFunc(l, byKey)
	l = slices.CompactFunc(l, func(a, b api.Update) bool { return byKey(a, b) == 0 })
	var found []api.Update
	for _, u := range l {
		group, why := spine.Group(s, u.Key)
		if why != api.OK {
			return nil, why
		}
		found = append(found, group...)
	}
	return found, api.OK
}
