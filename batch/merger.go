package batch

import (
	"freshet/api"
	"freshet/copies"
	"freshet/diff"
	"freshet/value"
)

// merging is a merger that works.
type merging struct {
	api.Merger
	cost int
}

// Start returns a merger of the updates of a and b, of which none are merged yet.
func Start(since []api.Time, a, b api.Batch) (api.Merger, api.Errno) {
	if Check(a) != api.OK || Check(b) != api.OK || !frontier(since) {
		return api.Merger{}, api.ErrForm
	}
	if !Later(since, a.Since) || !Later(since, b.Since) {
		return api.Merger{}, api.ErrRange
	}
	return api.Merger{A: copies.Updates(a.Updates), B: copies.Updates(b.Updates), Since: copies.List(since)}, api.OK
}

// CheckMerger returns ErrState if a merger is not valid.
func CheckMerger(m api.Merger) api.Errno {
	even := diff.Even(m.A) && diff.Even(m.B) && diff.Even(m.Out)
	if !even || !frontier(m.Since) || !advanced(m.Out, m.Since) || !divided(m.A, m.I, m.Out) || !divided(m.B, m.J, m.Out) {
		return api.ErrState
	}
	return api.OK
}

// divided reports whether i divides l so that no Key and Row is on both sides, and those from i on come behind all of out.
func divided(l []api.Update, i int, out []api.Update) bool {
	if i < 0 || i > len(l) {
		return false
	}
	if i == len(l) {
		return true
	}
	n := len(out)
	return (i == 0 || place(l[i-1], l[i]) < 0) && (n == 0 || place(out[n-1], l[i]) < 0)
}

// place is the order of updates by Key and Row.
func place(a, b api.Update) int {
	if c := value.Rows(a.Key, b.Key); c != 0 {
		return c
	}
	return value.Rows(a.Row, b.Row)
}

// Work executes steps as long as updates are left and their cost is less than fuel. With ErrOver it returns the merger before the step of which a sum does not fit.
func Work(m api.Merger, fuel int) (api.Merger, int, api.Errno) {
	if why := CheckMerger(m); why != api.OK {
		return api.Merger{}, 0, why
	}
	w := merging{Merger: copies.Merger(m)}
	for w.left() && w.cost < fuel {
		if why := w.step(); why != api.OK {
			return w.Merger, w.cost, why
		}
	}
	return w.Merger, w.cost, api.OK
}

// left reports whether updates are left.
func (w *merging) left() bool {
	return w.I < len(w.A) || w.J < len(w.B)
}

// next is an update with the Key and Row of the next step.
func (w *merging) next() api.Update {
	if w.J == len(w.B) || w.I < len(w.A) && place(w.A[w.I], w.B[w.J]) <= 0 {
		return w.A[w.I]
	}
	return w.B[w.J]
}

func (w *merging) step() api.Errno {
	next := w.next()
	belongs := func(u api.Update) bool { return place(u, next) == 0 }
	a, b := group(w.A, w.I, belongs), group(w.B, w.J, belongs)
	l, why := diff.Consolidate(advance(append(a, b...), w.Since))
	if why != api.OK {
		return why
	}
	w.Out = append(w.Out, l...)
	w.I += len(a)
	w.J += len(b)
	w.cost += len(a) + len(b)
	return api.OK
}

// End returns the batch of a merger, or ErrState if updates are left.
func End(m api.Merger) (api.Batch, api.Errno) {
	if why := CheckMerger(m); why != api.OK {
		return api.Batch{}, why
	}
	if w := (merging{Merger: m}); w.left() {
		return api.Batch{}, api.ErrState
	}
	return copies.Batch(api.Batch{Since: m.Since, Updates: m.Out}), api.OK
}
