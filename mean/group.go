package mean

import (
	"maps"
	"slices"

	"freshet/api"
	"freshet/copies"
	"freshet/diff"
	"freshet/value"
)

// arrange divides counts by the encoding of their values at some columns; the order of counts stays. If the values are too many to be a row, none are compared: all counts are together.
func arrange(l []api.Count, cols []int) map[string][]api.Count {
	m := map[string][]api.Count{}
	for _, c := range l {
		k := encoded(c.Row, cols)
		m[k] = append(m[k], c)
	}
	return m
}

func encoded(row []api.Value, cols []int) string {
	s, _ := value.Encode(key(row, cols))
	return s
}

// key is the values of a row at some columns, or none if they are too many.
func key(row []api.Value, cols []int) []api.Value {
	k, _ := value.Cols(row, cols...)
	return k
}

// join returns the matching rows of a and b, joined.
func join(p *api.Plan, a, b []api.Count) ([]api.Count, api.Errno) {
	var l []api.Count
	matches := arrange(b, p.With)
	for _, x := range a {
		for _, y := range matches[encoded(x.Row, p.Cols)] {
			n, why := diff.Times(x.N, y.N)
			if why != api.OK {
				return nil, why
			}
			row, why := value.Join(x.Row, y.Row)
			if why != api.OK {
				return nil, why
			}
			l = append(l, api.Count{Row: row, N: n})
		}
	}
	return diff.Merge(l)
}

// reduce returns the results of all groups.
func reduce(p *api.Plan, l []api.Count) ([]api.Count, api.Errno) {
	var made []api.Count
	groups, tell := arrange(l, p.Cols), teller(p)
	for _, k := range slices.Sorted(maps.Keys(groups)) {
		rows := groups[k]
		x, why := tell(group{key: key(rows[0].Row, p.Cols), n: p.N, rows: rows})
		if why != api.OK {
			return nil, why
		}
		made = append(made, x...)
	}
	return diff.Merge(made)
}

// Tells reports whether a plan, whatever else it has, is one by which groups have results: a PlanReduce, or a PlanDistinct.
func Tells(p api.Plan) bool {
	if p.Kind != api.PlanReduce {
		return p.Kind == api.PlanDistinct
	}
	return p.Agg > api.AggNone && p.Agg < api.AggCountKinds && (p.Agg != api.AggTop || p.N >= 1 && p.N <= api.MaxTop)
}

// Fits reports whether a row has the value that a plan by which groups have results needs.
func Fits(p api.Plan, row []api.Value) bool {
	if p.Kind != api.PlanReduce || p.Agg == api.AggCount || p.Agg == api.AggTop {
		return true
	}
	return p.N >= 0 && p.N < len(row) && (p.Agg != api.AggSum || !row[p.N].IsText)
}

// Group returns the result of a group, a collection, by a plan: with the values key, whatever the plan's Cols. The error is ErrForm if there is none, or ErrLong if its row is too long, or that of a number.
func Group(p api.Plan, key []api.Value, l []api.Count) ([]api.Count, api.Errno) {
	if !Tells(p) || slices.ContainsFunc(l, func(c api.Count) bool { return !Fits(p, c.Row) }) {
		return nil, api.ErrForm
	}
	if p.Kind == api.PlanReduce && p.Agg != api.AggTop && len(key) >= api.MaxCols {
		return nil, api.ErrLong
	}
	made, why := teller(&p)(group{key: key, n: p.N, rows: l})
	return copies.Counts(made), why
}

// teller is the method by which the result of a group is computed.
func teller(p *api.Plan) func(group) ([]api.Count, api.Errno) {
	if p.Kind == api.PlanDistinct {
		return group.distinct
	}
	switch p.Agg {
	case api.AggCount:
		return group.count
	case api.AggSum:
		return group.sum
	case api.AggMin:
		return group.least
	case api.AggMax:
		return group.greatest
	}
	return group.top
}

// group is rows in ascending order that have the same values at the Cols of a plan, and the N of that.
type group struct {
	key  []api.Value
	n    int
	rows []api.Count
}

func (g group) count() ([]api.Count, api.Errno) {
	var l []int64
	for _, c := range g.rows {
		l = append(l, c.N)
	}
	return g.number(diff.Sum(l...))
}

func (g group) sum() ([]api.Count, api.Errno) {
	var l []int64
	for _, c := range g.rows {
		n, why := diff.Times(c.Row[g.n].N, c.N)
		if why != api.OK {
			return nil, why
		}
		l = append(l, n)
	}
	return g.number(diff.Sum(l...))
}

// number is the result of a group that is told by a number.
func (g group) number(n int64, why api.Errno) ([]api.Count, api.Errno) {
	if why != api.OK {
		return nil, why
	}
	return g.one(api.Value{N: n}), api.OK
}

func (g group) least() ([]api.Count, api.Errno) {
	return g.best(slices.MinFunc)
}

func (g group) greatest() ([]api.Count, api.Errno) {
	return g.best(slices.MaxFunc)
}

// best is the result of a group that is told by one of the values at N, if there is any.
func (g group) best(of func([]api.Value, func(a, b api.Value) int) api.Value) ([]api.Count, api.Errno) {
	var l []api.Value
	for _, c := range g.present() {
		l = append(l, c.Row[g.n])
	}
	if len(l) == 0 {
		return nil, api.OK
	}
	return g.one(of(l, value.Compare)), api.OK
}

// one is the key of a group, followed by a value.
func (g group) one(v api.Value) []api.Count {
	return []api.Count{{Row: slices.Concat(g.key, []api.Value{v}), N: 1}}
}

// top is the last rows that are there.
func (g group) top() ([]api.Count, api.Errno) {
	l := g.present()
	return l[max(0, len(l)-g.n):], api.OK
}

func (g group) distinct() ([]api.Count, api.Errno) {
	return g.present(), api.OK
}

// present is the rows that are there, each once.
func (g group) present() []api.Count {
	var l []api.Count
	for _, c := range g.rows {
		if c.N > 0 {
			l = append(l, api.Count{Row: c.Row, N: 1})
		}
	}
	return l
}
