package group

import (
	"slices"

	"freshet/api"
	"freshet/moment"
)

// set is times, each once, in the order in which they were added.
type set struct {
	has  map[api.Time]bool
	list []api.Time
}

func (s *set) add(t api.Time) {
	if !s.has[t] {
		s.has[t] = true
		s.list = append(s.list, t)
	}
}

// times is the times of updates, in the linear order.
func times(l []api.Update) []api.Time {
	given, all, rounds := newSet(), newSet(), newSet()
	for _, u := range l {
		given.add(u.Time)
	}
	slices.SortFunc(given.list, moment.Compare)
	for _, t := range given.list {
		// No epoch so far is after that of t: of the times so far, only the rounds matter.
		bounds := []api.Time{t}
		for _, r := range rounds.list {
			if !moment.Ahead(r, t) {
				bounds = append(bounds, moment.Lub(r, t))
			}
		}
		for _, b := range bounds {
			all.add(b)
			b.Epoch = 0
			rounds.add(b)
		}
	}
	slices.SortFunc(all.list, moment.Compare)
	return all.list
}

func newSet() set {
	return set{has: map[api.Time]bool{}}
}
