package front

import (
	"freshet/api"
	"freshet/diff"
	"freshet/flow"
	"freshet/spine"
)

// leaves is the nodes by which loops are left.
func leaves(f api.Flow) []int {
	return flow.Select(f, func(i int) bool { return f.Nodes[i].Kind == api.NodeLeave })
}

// first is the epoch from which on what is in a spine is told apart.
func first(s api.Spine) uint64 {
	if len(s.Since) == 0 {
		return 0
	}
	return s.Since[0].Epoch
}

// since is the epoch from which on it can be told whether the loops have converged.
func since(f api.Flow) uint64 {
	epoch := uint64(0)
	for _, i := range leaves(f) {
		epoch = max(epoch, first(f.States[i].Left))
	}
	return epoch
}

// open returns the first epoch, from a given one on, at which the loops have not converged, or false if there is none.
func open(f api.Flow, from uint64) (uint64, bool) {
	epoch, found := uint64(0), false
	for _, i := range leaves(f) {
		l, why := rest(f.States[i].Left, from)
		if why != api.OK {
			return from, true
		}
		for _, u := range l {
			if !found || u.Time.Epoch < epoch {
				epoch, found = u.Time.Epoch, true
			}
		}
	}
	return epoch, found
}

// rest returns what is left of a spine if all epochs up to a given one are taken for that one. As nothing is left at an epoch at which a loop has converged, it is only updates of an epoch itself that make it the first one at which the loop has not; and an error is one of a sum at the given epoch, as no others are added up.
func rest(s api.Spine, from uint64) ([]api.Update, api.Errno) {
	l, why := spine.All(s)
	if why != api.OK {
		return nil, why
	}
	for i, u := range l {
		l[i].Time.Epoch = max(u.Time.Epoch, from)
	}
	return diff.Consolidate(l)
}
