package join

import (
	"cmp"
	"slices"
	"sort"

	"freshet/api"
	"freshet/copies"
	"freshet/diff"
	"freshet/linear"
	"freshet/moment"
	"freshet/spine"
	"freshet/value"
)

// pairs gathers what matching updates produce.
type pairs struct {
	linear.Producer
}

// match produces the updates of all matching pairs of an update of a and one of b.
func (p *pairs) match(a, b []api.Update) {
	b = slices.Clone(b)
	slices.SortFunc(b, byKey)
next:
	for _, x := range a {
		i := sort.Search(len(b), func(i int) bool { return byKey(b[i], x) >= 0 })
		for _, y := range b[i:] {
			if byKey(x, y) != 0 {
				continue next
			}
			p.pair(x, y)
		}
	}
}

// pair produces the update of two that match.
func (p *pairs) pair(x, y api.Update) {
	row, why := value.Join(x.Row, y.Row)
	n, over := diff.Times(x.Diff, y.Diff)
	p.Produce(api.Update{Row: row, Time: moment.Lub(x.Time, y.Time), Diff: n}, cmp.Or(why, over))
}

func byKey(a, b api.Update) int {
	return value.Rows(a.Key, b.Key)
}

// Keys returns the Keys of updates, in ascending order, each once.
func Keys(l []api.Update) [][]api.Value {
	var keys [][]api.Value
	for _, u := range l {
		keys = append(keys, copies.List(u.Key))
	}
	slices.SortFunc(keys, value.Rows)
	return slices.CompactFunc(keys, func(a, b []api.Value) bool { return value.Rows(a, b) == 0 })
}

// matching returns the updates of a spine that match one of l, at least.
func matching(s api.Spine, l []api.Update) ([]api.Update, api.Errno) {
	groups, why := spine.Groups(s, Keys(l)...)
	return slices.Concat(groups...), why
}
