package group

import (
	"slices"

	"freshet/api"
	"freshet/diff"
	"freshet/moment"
	"freshet/value"
)

// change is how many more of a row there are from a time on.
type change struct {
	time api.Time
	diff int64
}

// line is a row with its changes.
type line struct {
	row     []api.Value
	changes []change
}

// history is lines in ascending order of their rows, each once: as contents are asked for at many times, the rows are sorted only once.
type history []line

// historyOf is that of all updates of l, whatever their Keys.
func historyOf(l []api.Update) history {
	var h history
	l = slices.Clone(l)
	// In order, as each one is put behind all others then.
	slices.SortFunc(l, func(a, b api.Update) int { return value.Rows(a.Row, b.Row) })
	for _, u := range l {
		h.add(u)
	}
	return h
}

func (h *history) add(u api.Update) {
	i, found := slices.BinarySearchFunc(*h, u.Row, func(x line, row []api.Value) int { return value.Rows(x.row, row) })
	if !found {
		*h = slices.Insert(*h, i, line{row: u.Row})
	}
	x := &(*h)[i]
	x.changes = append(x.changes, change{u.Time, u.Diff})
}

// at appends the contents at t to l, or returns ErrOver if a sum does not fit.
func (h history) at(t api.Time, l []api.Count) ([]api.Count, api.Errno) {
	for _, x := range h {
		n, why := x.at(t)
		if why != api.OK {
			return nil, why
		}
		if n != 0 {
			l = append(l, api.Count{Row: x.row, N: n})
		}
	}
	return l, api.OK
}

func (x line) at(t api.Time) (int64, api.Errno) {
	diffs := make([]int64, 0, 8)
	for _, c := range x.changes {
		if moment.Ahead(c.time, t) {
			diffs = append(diffs, c.diff)
		}
	}
	return diff.Sum(diffs...)
}
