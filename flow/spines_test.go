package flow_test

import (
	"math"
	"slices"
	"testing"

	"freshet/api"
	"freshet/flow"
	"freshet/spine"
)

// each is a flow with other spines: those that change makes of the Left and the Right of each node.
func each(f api.Flow, change func(api.Spine) api.Spine) api.Flow {
	f.States = slices.Clone(f.States)
	for i, s := range f.States {
		f.States[i].Left, f.States[i].Right = change(s.Left), change(s.Right)
	}
	return f
}

// several is a flow with different spines, also where no node uses them.
func several(t *testing.T) api.Flow {
	t.Helper()
	a := source(0)
	f := hand(by(joined(a, a, nil, nil), to(0, 0)...), api.Node{Kind: api.NodeSource}, api.Node{Kind: api.NodeLeave, Rounds: 1}, by(distinct(a)))
	lists := [][]api.Update{ups(up(at(1), 1, 1)), ups(up(at(2), 1, 1)), ups(up(at(3, 4), 1, 1), up(at(4), 2, 2))}
	for i, since := range [][]api.Time{{at(0)}, {at(1)}, {at(1, 2), at(3)}, {at(3)}, nil} {
		s := &f.States[i]
		s.Left = insert(t, api.Spine{}, lists[:i%4]...)
		s.Right = insert(t, api.Spine{Since: since}, lists[i%3:]...)
	}
	return f
}

// 15.3
func TestCompact(t *testing.T) {
	f := several(t)
	// One spine has the Since 3, and one (1; 2) and 3.
	for epoch := range uint64(3) {
		g, why := flow.Compact(f, epoch)
		wantFlow(t, "too early", g, why, f, api.ErrRange)
	}
	for _, epoch := range []uint64{3, 4, 9, maxNumber} {
		g, why := flow.Compact(f, epoch)
		wantFlow(t, "compacted", g, why, each(f, func(s api.Spine) api.Spine {
			s.Since = []api.Time{at(epoch)}
			return s
		}), api.OK)
		h, why := flow.Compact(g, epoch)
		wantFlow(t, "again", h, why, g, api.OK)
		h, why = flow.Compact(g, epoch-1)
		wantFlow(t, "back", h, why, g, api.ErrRange)
	}
	for _, epoch := range []uint64{maxNumber + 1, math.MaxUint64} {
		g, why := flow.Compact(f, epoch)
		wantFlow(t, "no epoch", g, why, f, api.ErrRange)
	}
	g, why := flow.Compact(hand(), maxNumber)
	if s := g.States[0]; why != api.OK || !slices.Equal(s.Left.Since, []api.Time{at(maxNumber)}) || !slices.Equal(s.Right.Since, s.Left.Since) {
		t.Errorf("of nothing: %s, error %d", plain(g), why)
	}
}

// 15.3: a spine that cannot be compacted to the epoch is as it was.
func TestCompactStays(t *testing.T) {
	f := hand()
	f.States[0].Left.Since = []api.Time{at(1, 2), at(3)}
	want := f
	want.States = slices.Clone(f.States)
	want.States[0].Right.Since = []api.Time{at(2)}
	g, why := flow.Compact(f, 2)
	wantFlow(t, "between two times", g, why, want, api.OK)
	want.States[0].Left.Since, want.States[0].Right.Since = []api.Time{at(3)}, []api.Time{at(3)}
	g, why = flow.Compact(g, 3)
	wantFlow(t, "behind both", g, why, want, api.OK)
	f.States[0].Left.Since, f.States[0].Right.Since = nil, []api.Time{at(4, 0, 1)}
	g, why = flow.Compact(f, 3)
	wantFlow(t, "ahead of one", g, why, f, api.ErrRange)
	want.States[0].Left.Since, want.States[0].Right.Since = []api.Time{at(9)}, []api.Time{at(4, 0, 1)}
	g, why = flow.Compact(f, 9)
	wantFlow(t, "in a round", g, why, want, api.OK)
}

// 15.3: nothing may wait of an earlier epoch.
func TestCompactWaits(t *testing.T) {
	f := several(t)
	for _, g := range []api.Flow{put(f, 1, 1, up(at(7), 1, 1), up(at(5, 6), 1, 2)), put(put(f, 2, 0, up(at(9), 1, 1)), 4, 0, up(at(5), 1, 1)), put(f, 0, 0, up(at(5), 1, 1))} {
		for _, epoch := range []uint64{6, 7, maxNumber} {
			h, why := flow.Compact(g, epoch)
			wantFlow(t, "later than what waits", h, why, g, api.ErrRange)
		}
		h, why := flow.Compact(g, 5)
		wantFlow(t, "what waits", h, why, each(g, func(s api.Spine) api.Spine {
			s.Since = []api.Time{at(5)}
			return s
		}), api.OK)
	}
}

// 15.3
func TestWork(t *testing.T) {
	f := put(several(t), 2, 0, up(at(9), 1, 1))
	for _, s := range []*api.Spine{&f.States[0].Left, &f.States[0].Right, &f.States[2].Right} {
		*s = api.Spine{}
		for i := range 30 {
			*s = insert(t, *s, ups(up(at(1), 1, i)))
		}
	}
	// Its merger of the last class fails, so that it stays as it was as long as that has its turn.
	f.States[4].Right = full(t)
	for _, fuel := range []int{0, 1, 2, 5, 99, -1, math.MaxInt, math.MinInt} {
		g, why := flow.Work(f, fuel)
		want := each(f, func(s api.Spine) api.Spine {
			w, _, why := spine.Work(s, fuel)
			if why != api.OK {
				return s
			}
			return w
		})
		wantFlow(t, "worked", g, why, want, api.OK)
		if (plain(g) != plain(f)) != (fuel > 0) || plain(api.Flow{States: g.States[4:]}) != plain(api.Flow{States: f.States[4:]}) {
			t.Errorf("with the fuel %d: %s", fuel, plain(g))
		}
	}
	failed := f
	failed.Failed, failed.Fail = true, 3
	g, why := flow.Work(failed, 0)
	wantFlow(t, "it had failed", g, why, failed, api.OK)
}
