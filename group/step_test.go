package group_test

import (
	"fmt"
	"reflect"
	"slices"
	"testing"

	"freshet/api"
	"freshet/group"
	"freshet/spine"
)

// plain is a spine without the difference of nil and empty lists.
func plain(s api.Spine) string {
	t := fmt.Sprintf("since %d:", slices.Clone(s.Since))
	for _, l := range s.Levels {
		m := l.Merger
		t += fmt.Sprintf(" class %d, %t, %d %s; %s and %s, %d %d %d, %s.", l.Class, l.Busy, l.Batch.Since, show(l.Batch.Updates), show(m.A), show(m.B), m.I, m.J, m.Since, show(m.Out))
	}
	return t
}

func wantSpine(t *testing.T, name string, s, want api.Spine) {
	t.Helper()
	if plain(s) != plain(want) {
		t.Errorf("%s: the spine is\n%s\nwant\n%s", name, plain(s), plain(want))
	}
}

// step has updates arrive, and returns the spine; it holds what is produced, and that the updates are in the spine.
func step(t *testing.T, name string, p api.Plan, s api.Spine, l []api.Update, o outcome) api.Spine {
	t.Helper()
	now, made, when, why := group.Step(p, s, l)
	want(t, name, of(made, when, why), o)
	wantSpine(t, name, now, insert(t, s, l))
	return now
}

// stay has updates arrive that cannot be put into the spine, or with which there is no output.
func stay(t *testing.T, name string, p api.Plan, s api.Spine, l []api.Update, when api.Time) {
	t.Helper()
	now, made, at, why := group.Step(p, s, l)
	want(t, name, of(made, at, why), failed(when))
	wantSpine(t, name, now, s)
}

// 13.3
func TestStep(t *testing.T) {
	p := reduce(api.AggCount, 0)
	s := step(t, "nothing", p, api.Spine{}, nil, fine())
	s = step(t, "two groups", p, s, ups(up(at(1), 2, 7, "a"), up(at(1), 1, 5, "b"), up(at(2), 1, 7, "c")),
		fine(bare(at(1), 1, row(5, 1)), bare(at(1), 1, row(7, 2)), bare(at(2), -1, row(7, 2)), bare(at(2), 1, row(7, 3))))
	s = step(t, "no more of it", p, s, ups(up(at(3), -1, 5, "b")), fine(bare(at(3), -1, row(5, 1))))
	s = step(t, "between two", p, s, ups(up(at(1, 1), 4, 7, "d")),
		fine(bare(at(1, 1), -1, row(7, 2)), bare(at(2, 1), 1, row(7, 2)), bare(at(2, 1), -1, row(7, 3)), bare(at(1, 1), 1, row(7, 6)), bare(at(2, 1), -1, row(7, 6)), bare(at(2, 1), 1, row(7, 7))))
	s = step(t, "ahead of all", p, s, ups(up(at(0), 1, 5, "b")), fine(bare(at(0), 1, row(5, 1)), bare(at(1), -2, row(5, 1)), bare(at(3), 2, row(5, 1)), bare(at(1), 1, row(5, 2)), bare(at(3), -1, row(5, 2))))
	s = step(t, "what comes and goes at once", p, s, ups(up(at(0), 1, 5, "b"), up(at(0), -1, 5, "b"), up(at(0), 0, 4, "b")), fine())
	s = step(t, "one for the other", p, s, ups(up(at(9), 1, 5, "x"), up(at(9), -1, 5, "b")), fine())
	step(t, "nothing of any key", p, s, nil, fine())

	d := distinct()
	u := func(t api.Time, n int64, l ...any) api.Update {
		return api.Update{Key: row(l...), Row: row(l...), Time: t, Diff: n}
	}
	s = step(t, "rows", d, api.Spine{}, ups(u(at(1), 2, "a"), u(at(1), -1, "b")), fine(bare(at(1), 1, row("a"))))
	s = step(t, "rows again", d, s, ups(u(at(2), 5, "a"), u(at(4), 2, "b")), fine(bare(at(4), 1, row("b"))))
	step(t, "fewer of rows", d, s, ups(u(at(2), -7, "a"), u(at(4), -1, "b")), fine(bare(at(2), -1, row("a")), bare(at(4), -1, row("b"))))
}

// Groups of which the results are the same row: there is the sum of them.
func TestStepSameRows(t *testing.T) {
	s := step(t, "two groups", distinct(), api.Spine{}, ups(up(at(1), 1, 1, "a"), up(at(1), 4, 2, "a"), up(at(1), -1, 3, "a")), fine(bare(at(1), 2, row("a"))))
	s = step(t, "one for the other", distinct(), s, ups(up(at(2), -1, 1, "a"), up(at(2), 2, 3, "a")), fine())
	step(t, "none", distinct(), s, ups(up(at(3), -4, 2, "a"), up(at(3), -9, 3, "a")), fine(bare(at(3), -2, row("a"))))
	top := reduce(api.AggTop, 1)
	step(t, "greatest rows", top, api.Spine{}, ups(up(at(1), 1, 1, 5), up(at(1), 1, 1, 4), up(at(1), 1, 2, 5), up(at(2), 1, 2, 6)), fine(bare(at(1), 2, row(5)), bare(at(2), -1, row(5)), bare(at(2), 1, row(6))))
}

// A failure of what there was is none of a step; one of what there is is, also if it is ahead of what comes.
func TestStepFails(t *testing.T) {
	p := reduce(api.AggSum, 0)
	s := step(t, "a sum", p, api.Spine{}, ups(up(at(1), 1, 1, 1<<62), up(at(3), 1, 1, 1<<62, "a"), up(at(1), 1, 2, 5)), failed(at(3), bare(at(1), 1, row(1, 1<<62)), bare(at(1), 1, row(2, 5))))
	s = step(t, "another group", p, s, ups(up(at(2), 1, 2, 6)), fine(bare(at(2), -1, row(2, 5)), bare(at(2), 1, row(2, 11))))
	s = step(t, "behind it", p, s, ups(up(at(7), 1, 1, 1)), failed(at(3)))
	s = step(t, "behind it, and less", p, s, ups(up(at(9), -1, 1, 1<<62)), failed(at(3), bare(at(9), -1, row(1, 1<<62)), bare(at(9), 1, row(1, 1<<62+1))))
	s = step(t, "ahead of it, and less", p, s, ups(up(at(3), -1, 1, 1)), failed(at(7), bare(at(3), -1, row(1, 1<<62)), bare(at(9), 2, row(1, 1<<62)), bare(at(9), -1, row(1, 1<<62+1)), bare(at(3), 1, row(1, greatest)), bare(at(9), -1, row(1, greatest))))
	s = step(t, "none fails any more", p, s, ups(up(at(7), -1, 1, 1)), fine(bare(at(9), 1, row(1, 1<<62-1)), bare(at(9), -1, row(1, 1<<62))))
	step(t, "of two", p, s, ups(up(at(8), 2, 2, 1<<62), up(at(6), 1, 3, greatest), up(at(6), 1, 3, 1)), failed(at(6)))
}

// overs is spines, and updates with which Insert, or Group, has sums that do not fit.
func overs(t *testing.T) map[string]struct {
	s api.Spine
	l []api.Update
} {
	l := ups(up(at(7), 1, 2, 2))
	merger := api.Merger{A: ups(up(at(0), greatest, 9, 1)), B: ups(up(at(0), 1, 9, 1))}
	// A sum that is too great from epoch 3 on.
	late := compact(t, insert(t, api.Spine{}, ups(up(at(0), greatest, 2, 1)), ups(up(at(1), 1, 2, 1))), at(3))
	return map[string]struct {
		s api.Spine
		l []api.Update
	}{
		"a merger that has to be completed": {api.Spine{Levels: []api.Level{{Class: 1, Busy: true, Merger: merger}}}, l},
		"a sum of what comes":               {api.Spine{}, ups(up(at(7), greatest, 2, 1), up(at(7), 1, 2, 1))},
		"a sum of what comes, advanced":     {api.Spine{Since: []api.Time{at(9)}}, ups(up(at(8), greatest, 2, 1), up(at(7), 1, 2, 1))},
		"a group before and now":            {late, l},
		"a group before":                    {late, ups(up(at(7), 1, 2, 5), up(at(2), -1, 2, 1))},
		"a group now":                       {insert(t, api.Spine{}, ups(up(at(7), greatest, 2, 1))), ups(up(at(7), 1, 2, 1))},
		"all":                               {api.Spine{Levels: []api.Level{{Class: 1, Busy: true, Merger: merger}}}, ups(up(at(7), 1, 9, 1))},
	}
}

// 13.3: with a sum of the spine that does not fit nothing is produced, nothing is inserted, and the time is the first one of the updates.
func TestStepOver(t *testing.T) {
	for _, p := range []api.Plan{reduce(api.AggCount, 0), reduce(api.AggSum, 0), distinct()} {
		for name, x := range overs(t) {
			first := x.l[0].Time
			for _, u := range x.l[1:] {
				first = at(min(first.Epoch, u.Time.Epoch))
			}
			stay(t, name, p, x.s, x.l, first)
			if name == "a merger that has to be completed" || name == "all" {
				continue // of more updates than it needs for that
			}
			stay(t, name+" and others", p, x.s, append(ups(up(at(5, 2), 1, 3, 2), up(at(5, 1, 9), 1, 1, 2), up(at(6), 1, 4, 1)), x.l...), slices.MinFunc([]api.Time{at(5, 1, 9), first}, early))
			stay(t, name+" and one that is nothing", p, x.s, append(ups(up(at(1, 1), 0, 3, 2)), x.l...), at(1, 1))
		}
	}
	// Sums of keys that do not come do not matter.
	s := insert(t, api.Spine{}, ups(up(at(7), greatest, 2, 1), up(at(7), 1, 2, 2)), ups(up(at(7), 1, 2, 1)))
	stay(t, "its key", reduce(api.AggCount, 0), s, ups(up(at(8), 1, 2, 2)), at(8))
	step(t, "another key", reduce(api.AggCount, 0), s, ups(up(at(7), 1, 1, 2)), fine(bare(at(7), 1, row(1, 1))))
	step(t, "no key", reduce(api.AggCount, 0), s, nil, fine())
}

// early is the linear order of times of the loops of which one round differs.
func early(a, b api.Time) int {
	return slices.Compare([]uint64{a.Epoch, a.Loop[0], a.Loop[1]}, []uint64{b.Epoch, b.Loop[0], b.Loop[1]})
}

// 13.3: rows in the spine that do not fit the plan fail the step if their key comes.
func TestStepStrange(t *testing.T) {
	for p, lists := range strange() {
		if p.N > 1 || p.N < 0 {
			continue
		}
		for _, l := range lists {
			for i := range l {
				l[i].Key, l[i].Diff = row(4), 1
			}
			name := fmt.Sprintf("agg %d of %d, %s", p.Agg, p.N, show(l))
			s := insert(t, api.Spine{}, l)
			stay(t, name, *p, s, ups(up(at(3, 1), 1, 4, 1, 1), up(at(2, 5), 1, 9, 1, 1), up(at(2, 4, 1), 0, 1, 1, 1)), at(2, 4, 1))
			stay(t, name, *p, s, ups(up(at(8), 1, 4, 1, 1)), at(8))
			step(t, name, *p, s, ups(up(at(3), 1, 3, 1, 1)), fine(bare(at(3), 1, row(3, 1))))
			step(t, name, *p, s, nil, fine())
		}
	}
}

// wrongSpines is spines that are not valid.
func wrongSpines() []api.Spine {
	l := ups(up(at(1), 1, 1, 1))
	level := api.Level{Class: 1, Batch: api.Batch{Updates: l}}
	return []api.Spine{
		{Since: []api.Time{at(1), at(2)}},
		{Since: []api.Time{at(maxNumber + 1)}},
		{Levels: []api.Level{{}}},
		{Levels: []api.Level{{Class: 2, Batch: level.Batch}}},
		{Levels: []api.Level{level, level}},
		{Levels: []api.Level{{Class: 1, Busy: true, Batch: level.Batch}}},
		{Levels: []api.Level{{Class: 1, Batch: api.Batch{Updates: ups(up(at(1), 0, 1, 1))}}}},
		{Levels: []api.Level{{Class: 1, Batch: api.Batch{Since: []api.Time{at(1)}, Updates: l}}}},
		{Levels: []api.Level{{Class: 1, Busy: true, Merger: api.Merger{A: l, B: l, I: 1, J: 1}}}},
	}
}

// 13.3: the errors come in their order: spine, updates, plan; and with one all else is zero.
func TestStepWrong(t *testing.T) {
	good := []api.Spine{{}, insert(t, api.Spine{}, ups(up(at(1), 1, 1, 1)))}
	bad := wrongSpines()
	for _, s := range bad {
		if why := spine.Check(s); why != api.OK {
			continue
		}
		t.Errorf("%s is valid", plain(s))
	}
	hold := func(p api.Plan, s api.Spine, l []api.Update, no api.Errno) {
		t.Helper()
		now, made, when, why := group.Step(p, s, l)
		if why != no || no != api.OK && (!reflect.DeepEqual(now, api.Spine{}) || len(made) > 0 || when != at(0)) {
			t.Errorf("kind %d, agg %d of %d, %s, %s: error %d, want %d; %s, %s, %d", p.Kind, p.Agg, p.N, plain(s), show(l), why, no, plain(now), show(made), when)
		}
	}
	fit, no := reduce(api.AggSum, 0), reduce(api.AggTop, 0)
	for _, s := range bad {
		for _, p := range []api.Plan{fit, no, {}} {
			hold(p, s, nil, api.ErrState)
			hold(p, s, ups(up(at(1), 1, 1, "a")), api.ErrState)
			hold(p, s, ups(up(at(maxNumber+1), 1, 1, 1)), api.ErrState)
			hold(p, s, ups(bare(at(1), 1, wide(maxCols+1))), api.ErrState)
		}
	}
	for _, s := range good {
		for why, lists := range wrong() {
			for _, l := range lists {
				hold(fit, s, l, why)
				hold(no, s, l, why)
				hold(api.Plan{}, s, l, why)
			}
		}
		for _, p := range unfit() {
			hold(p, s, nil, api.ErrForm)
			hold(p, s, ups(up(at(1), 1, 1, 1)), api.ErrForm)
		}
		for p, lists := range strange() {
			for _, l := range lists {
				hold(*p, s, l, api.ErrForm)
				hold(*p, s, append(l, up(at(maxNumber+1), 1, 1)), api.ErrRange)
			}
		}
		hold(fit, s, ups(up(at(1), 1, 1, 1)), api.OK)
	}
}
