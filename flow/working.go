package flow

import (
	"slices"

	"freshet/api"
	"freshet/copies"
	"freshet/diff"
	"freshet/spine"
)

// Working is a flow that is being changed; all its lists are its own. It is checked only where it begins, so that many nodes are run with one check.
type Working struct {
	api.Flow
}

// Begin returns a working copy of a flow, or ErrState if it is not valid.
func Begin(f api.Flow) (Working, api.Errno) {
	if why := Check(f); why != api.OK {
		return Working{}, why
	}
	return Working{Flow: copies.Flow(f)}, api.OK
}

// Push makes updates wait at each NodeSource whose N is source.
func Push(f api.Flow, source int, l []api.Update) (api.Flow, api.Errno) {
	w, why := Begin(f)
	if why != api.OK {
		return w.Flow, why
	}
	if source < 0 {
		return w.Flow, api.ErrRange
	}
	if why := diff.Check(l); why != api.OK {
		return w.Flow, why
	}
	if slices.ContainsFunc(l, keyed) {
		return w.Flow, api.ErrForm
	}
	for _, i := range Select(w.Flow, func(i int) bool { return w.Nodes[i].Kind == api.NodeSource && w.Nodes[i].N == source }) {
		w.wait(api.Port{Node: i}, l)
	}
	return w.Flow, api.OK
}

// Run runs a node, or returns ErrRange if there is no such node.
func Run(f api.Flow, node int) (api.Flow, api.Errno) {
	w, why := Begin(f)
	if why == api.OK {
		why = w.Run(node)
	}
	return w.Flow, why
}

// Compact compacts each spine to an epoch, as far as it can be.
func Compact(f api.Flow, epoch uint64) (api.Flow, api.Errno) {
	w, why := Begin(f)
	if why != api.OK {
		return w.Flow, why
	}
	first, waits := low(w.Flow)
	if epoch > api.MaxNumber || waits && first < epoch || w.past(epoch) {
		return w.Flow, api.ErrRange
	}
	w.spines(func(s *api.Spine) { *s, _ = spine.Compact(*s, []api.Time{{Epoch: epoch}}) })
	return w.Flow, api.OK
}

// past reports whether a spine is compacted to a later epoch.
func (w *Working) past(epoch uint64) bool {
	found := false
	w.spines(func(s *api.Spine) { found = found || len(s.Since) > 0 && epoch < s.Since[0].Epoch })
	return found
}

// Work has each spine work.
func Work(f api.Flow, fuel int) (api.Flow, api.Errno) {
	w, why := Begin(f)
	if why != api.OK {
		return w.Flow, why
	}
	w.spines(func(s *api.Spine) { *s, _, _ = spine.Work(*s, fuel) })
	return w.Flow, api.OK
}

// spines has a function look at each spine, or change it, node by node.
func (w *Working) spines(look func(*api.Spine)) {
	for i := range w.States {
		look(&w.States[i].Left)
		look(&w.States[i].Right)
	}
}

// Waiting returns the indices of the nodes at which something waits, in ascending order.
func (w *Working) Waiting() []int {
	return waiting(w.Flow)
}

// pass makes updates wait at each of ports.
func (w *Working) pass(ports []api.Port, l []api.Update) {
	for _, p := range ports {
		w.wait(p, l)
	}
}

// wait makes updates wait at a port, unless a sum with what waits there does not fit.
func (w *Working) wait(p api.Port, l []api.Update) {
	waits := &w.States[p.Node].Waits[p.Port]
	all, why := diff.Consolidate(*waits, l)
	if why != api.OK {
		w.failAll(l)
		return
	}
	*waits = all
}

// fail records a failure at t: that of the smallest epoch is kept.
func (w *Working) fail(t api.Time) {
	if !w.Failed || t.Epoch < w.Fail {
		w.Failed, w.Fail = true, t.Epoch
	}
}

// failAll records a failure at the first time of updates.
func (w *Working) failAll(l []api.Update) {
	for _, u := range l {
		w.fail(u.Time)
	}
}
