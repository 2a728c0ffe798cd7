package batch_test

import (
	"cmp"
	"math"
	"runtime"
	"slices"
	"strconv"
	"testing"

	"freshet/api"
	"freshet/batch"
	"freshet/diff"
	"freshet/moment"
	"freshet/value"
)

func showMerger(m api.Merger) string {
	return show(m.A) + " " + strconv.Itoa(m.I) + " " + show(m.B) + " " + strconv.Itoa(m.J) + " " + showBatch(api.Batch{Since: m.Since, Updates: m.Out})
}

func wantMerger(t *testing.T, what string, m api.Merger, why api.Errno, want api.Merger, no api.Errno) {
	t.Helper()
	if s, w := showMerger(m), showMerger(want); why != no || s != w {
		t.Errorf("%s: %s, error %d; want %s, error %d", what, s, why, w, no)
	}
}

// work is Work where it succeeds.
func work(t *testing.T, m api.Merger, fuel, cost int) api.Merger {
	t.Helper()
	w, n, why := batch.Work(m, fuel)
	if n != cost || why != api.OK {
		t.Errorf("Work of %s with %d: cost %d, error %d; want cost %d", showMerger(m), fuel, n, why, cost)
	}
	return w
}

// begun is a merger of the batches of the examples.
func begun(t *testing.T) api.Merger {
	t.Helper()
	a, b := example(t)
	m, why := batch.Start(epoch(2), a, b)
	wantMerger(t, "Start", m, why, api.Merger{A: a.Updates, B: b.Updates, Since: epoch(2)}, api.OK)
	return m
}

// 6.2: the document's example.
func TestExample(t *testing.T) {
	a, b := example(t)
	m, why := batch.Start(nil, a, b)
	wantMerger(t, "Start with no since", m, why, api.Merger{}, api.ErrRange)
	m = begun(t)
	outs := [][]api.Update{{up(2, 2, 1), up(2, 3, 2)}, {up(2, 2, 1), up(2, 3, 2), up(4, 2, 1)}, {up(2, 2, 1), up(2, 3, 2), up(4, 2, 1)}, {up(2, 2, 1), up(2, 3, 2), up(4, 2, 1), up(3, 4, 1)}}
	places := [][2]int{{1, 1}, {1, 2}, {2, 3}, {3, 3}}
	for i, cost := range []int{2, 1, 2, 1} {
		if e, why := batch.End(m); why != api.ErrState {
			t.Errorf("End ahead of the end: %s, error %d", showBatch(e), why)
		}
		m = work(t, m, 1, cost)
		want := api.Merger{A: a.Updates, B: b.Updates, I: places[i][0], J: places[i][1], Since: epoch(2), Out: outs[i]}
		wantMerger(t, "Work", m, api.OK, want, api.OK)
	}
	wantMerger(t, "Work at the end", work(t, m, 1, 0), api.OK, m, api.OK)
	e, why := batch.End(m)
	wantBatch(t, "End", e, why, api.Batch{Since: epoch(2), Updates: outs[3]}, api.OK)
	if i, why := batch.Seek(e, row(1)); i != 3 || why != api.OK {
		t.Errorf("Seek: %d, error %d", i, why)
	}
	g, why := batch.Group(e, row(0))
	wantUpdates(t, "Group", g, why, outs[3][:3], api.OK)
}

// 6.2: the costs of the steps are 2, 1, 2 and 1.
func TestFuel(t *testing.T) {
	for fuel, cost := range map[int]int{math.MinInt: 0, -1: 0, 0: 0, 1: 2, 2: 2, 3: 3, 4: 5, 5: 5, 6: 6, 7: 6, math.MaxInt: 6} {
		m := begun(t)
		w := work(t, m, fuel, cost)
		if cost == 0 {
			wantMerger(t, "Work without fuel", w, api.OK, m, api.OK)
		}
		work(t, w, 99, 6-cost)
	}
	work(t, api.Merger{}, 9, 0)
}

// 6.2: of batches of which none is there in the other one, of none, and of those with one Key and Row at many times.
func TestSteps(t *testing.T) {
	many := []api.Update{up(1, 0, 1), up(1, 1, 1), up(1, 2, 1), up(1, 7, 1)}
	key := func(k, n int) api.Update { return update(row(k), row(n), at(0), 1) }
	for _, x := range []struct {
		a, b  []api.Update
		costs []int
	}{
		{nil, nil, nil},
		{[]api.Update{up(1, 0, 1)}, nil, []int{1}},
		{nil, []api.Update{up(1, 0, 1)}, []int{1}},
		{[]api.Update{up(1, 0, 1)}, []api.Update{up(1, 0, -1)}, []int{2}},
		{many, nil, []int{4}},
		{nil, many, []int{4}},
		{many, many, []int{8}},
		{[]api.Update{up(0, 0, 1)}, many, []int{1, 4}},
		{many, []api.Update{up(0, 0, 1), up(3, 0, 1)}, []int{1, 4, 1}},
		{many, append(slices.Clone(many), up(3, 0, 1), up(3, 1, 1)), []int{8, 2}},
		// The Key comes ahead of the Row, and both are the same in a step.
		{[]api.Update{key(1, 1), key(1, 2), key(2, 1)}, []api.Update{key(1, 2), key(2, 2), key(3, 1)}, []int{1, 2, 1, 1, 1}},
		{[]api.Update{key(1, 9)}, []api.Update{key(2, 3)}, []int{1, 1}},
		{[]api.Update{key(2, 3)}, []api.Update{key(1, 9)}, []int{1, 1}},
	} {
		m, why := batch.Start(epoch(1), build(t, nil, x.a...), build(t, nil, x.b...))
		if why != api.OK {
			t.Errorf("Start: error %d", why)
		}
		for _, cost := range append(x.costs, 0) {
			m = work(t, m, 1, cost)
		}
		e, why := batch.End(m)
		wantBatch(t, "End", e, why, build(t, epoch(1), slices.Concat(x.a, x.b)...), api.OK)
	}
}

// 6.2, P2
func TestStart(t *testing.T) {
	a, b := example(t)
	wrong := wrongBatches()[0]
	for _, x := range []struct {
		since []api.Time
		a, b  api.Batch
		no    api.Errno
	}{
		{epoch(1), a, b, api.OK},
		{epoch(1), b, a, api.OK},
		{epoch(2), a, a, api.OK},
		{nil, a, a, api.OK},
		{nil, api.Batch{}, api.Batch{}, api.OK},
		{nil, a, b, api.ErrRange},
		{nil, b, a, api.ErrRange},
		{epoch(0), a, b, api.ErrRange},
		{epoch(0), b, a, api.ErrRange},
		{[]api.Time{at(0, 3), at(2)}, a, b, api.ErrRange},
		{[]api.Time{at(1, 3), at(2)}, a, b, api.OK},
		{nil, wrong, b, api.ErrForm},
		{nil, b, wrong, api.ErrForm},
		{epoch(9), wrong, wrong, api.ErrForm},
		{[]api.Time{at(0), at(0)}, a, b, api.ErrForm},
		{[]api.Time{at(0), at(9)}, b, b, api.ErrForm},
	} {
		m, why := batch.Start(x.since, x.a, x.b)
		want := api.Merger{}
		if x.no == api.OK {
			want = api.Merger{A: x.a.Updates, B: x.b.Updates, Since: x.since}
		}
		wantMerger(t, "Start", m, why, want, x.no)
	}
	for _, w := range wrongBatches() {
		for _, since := range append(wrongFronts(), nil, epoch(0), epoch(99)) {
			m, why := batch.Start(since, w, a)
			wantMerger(t, "Start of "+showBatch(w), m, why, api.Merger{}, api.ErrForm)
			m, why = batch.Start(since, a, w)
			wantMerger(t, "Start of "+showBatch(w), m, why, api.Merger{}, api.ErrForm)
		}
	}
	for _, since := range wrongFronts() {
		m, why := batch.Start(since, a, b)
		wantMerger(t, "Start of no frontier", m, why, api.Merger{}, api.ErrForm)
	}
}

// wrongMergers is mergers of which each is wrong in one way.
func wrongMergers(t *testing.T) []api.Merger {
	a, b := example(t)
	twice := []api.Update{up(1, 0, 1), up(1, 1, 1), up(3, 0, 1), up(3, 1, 1), up(3, 2, 1)}
	l := []api.Merger{
		{I: 1}, {J: 1}, {I: -1}, {J: -1}, {I: math.MinInt}, {J: math.MaxInt},
		{A: a.Updates, I: 4}, {A: a.Updates, J: 1}, {B: b.Updates, I: 1}, {B: b.Updates, J: 4}, {A: a.Updates, B: b.Updates, I: 3, J: -1}, {A: a.Updates, B: b.Updates, I: math.MaxInt, J: 3},
		// What is on both sides of I, and of J.
		{A: twice, I: 1}, {A: twice, I: 3}, {A: twice, I: 4}, {B: twice, J: 1}, {B: twice, J: 3}, {B: twice, J: 4}, {A: twice, B: twice, I: 2, J: 3}, {A: twice, B: twice, I: 5, J: 4},
		// Out comes behind what is left, or is of its Key and Row.
		{A: twice, Out: []api.Update{up(1, 0, 1)}}, {A: twice, Out: []api.Update{up(1, 9, 1)}}, {A: twice, Out: []api.Update{up(3, 0, 1)}}, {A: twice, I: 2, Out: []api.Update{up(3, 0, 1)}}, {A: twice, I: 2, Out: []api.Update{up(1, 0, 1), up(3, 9, 1)}},
		{B: twice, Out: []api.Update{up(1, 0, 1)}}, {B: twice, Out: []api.Update{up(0, 0, 1), up(5, 9, 1)}}, {B: twice, J: 2, Out: []api.Update{up(3, 0, 1)}}, {A: twice, B: twice, I: 5, J: 2, Out: []api.Update{up(3, 0, 1)}}, {A: twice, B: twice, I: 2, J: 5, Out: []api.Update{up(5, 0, 1)}},
		{A: twice, Out: []api.Update{update(row(2), nil, at(0), 1)}}, {A: []api.Update{update(nil, row(1), at(0), 1)}, Out: []api.Update{update(nil, row(1), at(0), 1)}},
		// Out is not advanced.
		{Since: epoch(1), Out: []api.Update{up(1, 0, 1)}}, {Since: epoch(1), Out: []api.Update{up(2, 1, 1), up(1, 0, 1)}}, {Since: []api.Time{at(1, 2), at(2, 1)}, Out: []api.Update{update(nil, nil, at(1), 1)}},
	}
	for _, f := range wrongFronts() {
		l = append(l, api.Merger{Since: f}, api.Merger{A: a.Updates, B: b.Updates, I: 3, J: 3, Since: f})
	}
	for _, u := range uneven() {
		n := len(u)
		l = append(l, api.Merger{A: u}, api.Merger{A: u, I: n}, api.Merger{B: u}, api.Merger{B: u, J: n}, api.Merger{Out: u}, api.Merger{A: u, B: a.Updates, I: n, J: 3, Since: epoch(2), Out: []api.Update{up(4, 2, 1)}})
	}
	return l
}

// rightMergers is mergers made by hand that are valid.
func rightMergers(t *testing.T) []api.Merger {
	a, b := example(t)
	twice := []api.Update{up(1, 0, 1), up(1, 1, 1), up(3, 0, 1), up(3, 1, 1), up(3, 2, 1)}
	out := []api.Update{up(8, 5, 1), up(7, 2, 1)}
	l := []api.Merger{
		{},
		{A: a.Updates, B: b.Updates, Since: epoch(2)},
		{A: a.Updates, B: b.Updates, I: 3, J: 3},
		{A: a.Updates, B: b.Updates, I: 3, J: 3, Since: epoch(2), Out: out},
		{A: twice, B: twice, I: 2, J: 5, Out: []api.Update{up(8, 5, 1), up(1, 2, 1)}},
		{A: twice, B: twice, I: 0, J: 2, Out: []api.Update{update(nil, row(99), at(0), 1), update(row(0), row(99), at(0), 1)}},
		{A: twice, B: twice, I: 5, J: 0, Out: []api.Update{up(8, 5, 1), update(row(1), row(0, 7), at(9), 1)}},
		{A: twice, Out: []api.Update{update(row(1), nil, at(0), 1)}},
		// Of the Time only Out is asked whether it is advanced, and B may come behind what is left of A.
		{A: twice, B: []api.Update{up(9, 0, 1)}, J: 1, Since: epoch(9), Out: []api.Update{up(2, 9, 1)}},
		{Since: []api.Time{at(1, 2), at(2, 1)}, Out: []api.Update{update(nil, nil, at(1, 1), 1), update(nil, nil, at(1, 5), 1)}},
	}
	for _, f := range fronts() {
		l = append(l, api.Merger{A: twice, Since: f, Out: []api.Update{update(nil, nil, at(maxNumber, maxNumber, maxNumber), 1)}})
	}
	return l
}

// 6.2, P1, P2: what is wrong is answered by ErrState and nothing else; what is right goes on to its end.
func TestCheckMerger(t *testing.T) {
	for _, m := range wrongMergers(t) {
		if why := batch.CheckMerger(m); why != api.ErrState {
			t.Errorf("%s: error %d", showMerger(m), why)
		}
		for _, fuel := range []int{-1, 0, 1, 99} {
			w, n, why := batch.Work(m, fuel)
			wantMerger(t, "Work of "+showMerger(m), w, why, api.Merger{}, api.ErrState)
			if n != 0 {
				t.Errorf("Work of %s: cost %d", showMerger(m), n)
			}
		}
		e, why := batch.End(m)
		wantBatch(t, "End of "+showMerger(m), e, why, api.Batch{}, api.ErrState)
	}
	for _, m := range rightMergers(t) {
		if why := batch.CheckMerger(m); why != api.OK {
			t.Errorf("%s: error %d", showMerger(m), why)
		}
		left := len(m.A) - m.I + len(m.B) - m.J
		e, why := batch.End(m)
		if left > 0 {
			wantBatch(t, "End of "+showMerger(m), e, why, api.Batch{}, api.ErrState)
		}
		w := work(t, m, 99, left)
		e, why = batch.End(w)
		rest := build(t, m.Since, append(slices.Clone(m.A[m.I:]), m.B[m.J:]...)...)
		wantBatch(t, "End of "+showMerger(w), e, why, api.Batch{Since: m.Since, Updates: slices.Concat(m.Out, rest.Updates)}, api.OK)
	}
}

// merged is a merger that has worked with some fuels, again and again, to the end or to an error; every step takes some.
func merged(t *testing.T, m api.Merger, fuels []int) (api.Merger, api.Errno) {
	t.Helper()
	for i := 0; m.I < len(m.A) || m.J < len(m.B); i++ {
		fuel := fuels[i%len(fuels)]
		w, n, why := batch.Work(m, fuel)
		if batch.CheckMerger(w) != api.OK {
			t.Fatalf("Work of %s: %s is not valid", showMerger(m), showMerger(w))
		}
		if n != w.I-m.I+w.J-m.J || why == api.OK && n < min(fuel, len(m.A)-m.I+len(m.B)-m.J) || fuel <= 0 && n > 0 {
			t.Fatalf("Work of %s with %d: cost %d, %s", showMerger(m), fuel, n, showMerger(w))
		}
		if why != api.OK {
			return w, why
		}
		m = w
	}
	return m, api.OK
}

// 6.4, 6.6
func TestMerged(t *testing.T) {
	for _, since := range fronts() {
		for n := range 12 {
			all := messy(n * n)
			k := len(all) * (n % 5) / 4
			for _, f := range [][]api.Time{nil, since} {
				a, b := build(t, f, all[:k]...), build(t, nil, all[k:]...)
				m, why := batch.Start(since, a, b)
				if !batch.Later(since, f) || why != api.OK {
					t.Fatalf("Start: error %d", why)
				}
				want := build(t, since, slices.Concat(a.Updates, b.Updates)...)
				for _, fuels := range [][]int{{1}, {2}, {3, 1}, {0, 5, -1}, {100, 7}, {math.MaxInt}} {
					w, why := merged(t, m, fuels)
					e, no := batch.End(w)
					wantBatch(t, "End", e, cmp.Or(why, no), want, api.OK)
				}
			}
		}
	}
}

// 6.4: where a sum does not fit, it does not whatever the steps.
func TestMergedOver(t *testing.T) {
	for _, x := range []struct{ a, b []api.Update }{
		{[]api.Update{up(1, 0, greatest)}, []api.Update{up(1, 0, 1)}},
		{[]api.Update{up(1, 0, greatest), up(1, 1, 1)}, nil},
		{[]api.Update{up(1, 0, greatest), up(1, 1, 1)}, []api.Update{up(1, 1, -1)}},
		{[]api.Update{up(1, 0, least), up(3, 0, 1)}, []api.Update{up(1, 1, 1), up(1, 0, -1)}},
		{[]api.Update{up(2, 0, 1)}, []api.Update{up(1, 0, least), up(1, 1, -1)}},
		{[]api.Update{up(2, 0, greatest)}, []api.Update{up(2, 3, 1)}},
	} {
		want, no := batch.Build(epoch(2), x.a, x.b)
		m, why := batch.Start(epoch(2), build(t, nil, x.a...), build(t, nil, x.b...))
		if why != api.OK {
			t.Errorf("Start: error %d", why)
		}
		for _, fuels := range [][]int{{1}, {2, 0}, {99}} {
			w, why := merged(t, m, fuels)
			if why != no {
				t.Errorf("Work of %s: error %d, want %d", showMerger(m), why, no)
			}
			if no == api.OK {
				e, why := batch.End(w)
				wantBatch(t, "End", e, why, want, api.OK)
			}
		}
	}
}

// 6.2, P2: a sum that does not fit leaves the steps ahead of it.
func TestWorkOver(t *testing.T) {
	a := []api.Update{up(2, 0, 1), up(4, 0, greatest), up(4, 1, 1), up(6, 0, 1)}
	b := []api.Update{up(2, 0, 1), up(4, 1, 1)}
	m := api.Merger{A: a, B: b, Since: epoch(1)}
	first := api.Merger{A: a, B: b, I: 1, J: 1, Since: epoch(1), Out: []api.Update{up(2, 1, 2)}}
	w := work(t, m, 2, 2)
	wantMerger(t, "Work", w, api.OK, first, api.OK)
	for _, fuel := range []int{3, 4, 99, math.MaxInt} {
		w, n, why := batch.Work(m, fuel)
		wantMerger(t, "Work", w, why, first, api.ErrOver)
		if n != 2 {
			t.Errorf("Work with %d: cost %d", fuel, n)
		}
	}
	for _, fuel := range []int{1, 99} {
		again, n, why := batch.Work(w, fuel)
		wantMerger(t, "Work again", again, why, first, api.ErrOver)
		if n != 0 {
			t.Errorf("Work again: cost %d", n)
		}
	}
	wantMerger(t, "Work without fuel", work(t, w, 0, 0), api.OK, first, api.OK)
	e, why := batch.End(w)
	wantBatch(t, "End", e, why, api.Batch{}, api.ErrState)
}

// own holds the memory of lists.
type own map[any]bool

// add takes up the memory of a list, up to its capacity, and reports whether it is new.
func add[T any](o own, l []T) bool {
	l = l[:cap(l)]
	fresh := true
	for i := range l {
		fresh = fresh && !o[&l[i]]
		o[&l[i]] = true
	}
	return fresh
}

func (o own) updates(l []api.Update) bool {
	fresh := add(o, l)
	for _, u := range l {
		fresh = add(o, u.Key) && add(o, u.Row) && fresh
	}
	return fresh
}

func (o own) batch(b api.Batch) bool {
	return add(o, b.Since) && o.updates(b.Updates)
}

func (o own) merger(m api.Merger) bool {
	return add(o, m.Since) && o.updates(m.A) && o.updates(m.B) && o.updates(m.Out)
}

// roomy is updates with spare capacity, marked behind each end; the rows of them all are one and the same where they are equal.
func roomy(l []api.Update) []api.Update {
	rows := map[string][]api.Value{}
	wide := func(r []api.Value) []api.Value {
		s := showRow(r)
		if rows[s] == nil {
			rows[s] = append(slices.Clone(r), row("mark", "mark")...)[:len(r)]
		}
		return rows[s]
	}
	var c []api.Update
	for _, u := range l {
		c = append(c, update(wide(u.Key), wide(u.Row), u.Time, u.Diff))
	}
	return append(c, slices.Repeat([]api.Update{up(99, 99, 99)}, 9)...)[:len(l)]
}

func roomyTimes(l []api.Time) []api.Time {
	return append(slices.Clone(l), at(99), at(99), at(99))[:len(l)]
}

func roomyMerger(m api.Merger) api.Merger {
	m.A, m.B, m.Out, m.Since = roomy(m.A), roomy(m.B), roomy(m.Out), roomyTimes(m.Since)
	return m
}

// whole tells all of updates and of times, also what is behind their ends.
func whole(since []api.Time, lists ...[]api.Update) string {
	s := showBatch(api.Batch{Since: since[:cap(since)]})
	for _, l := range lists {
		s += show(l[:cap(l)])
		for _, u := range l[:cap(l)] {
			s += showRow(u.Key[:cap(u.Key)]) + showRow(u.Row[:cap(u.Row)])
		}
	}
	return s
}

// 6.3, P3: batches are as they were, and what is made of them shares no memory with them, with another result, or among itself.
func TestNewMemoryOfBatches(t *testing.T) {
	for _, b := range append(rightBatches(), build(t, epoch(1), messy(99)...), wrongBatches()[0]) {
		b = api.Batch{Since: roomyTimes(b.Since), Updates: roomy(b.Updates)}
		told, o := whole(b.Since, b.Updates), own{}
		o.batch(b)
		for range 2 {
			built, why := batch.Build(b.Since, b.Updates, b.Updates)
			started, no := batch.Start(b.Since, b, b)
			group, _ := batch.Group(b, row(1))
			if !o.batch(built) || !o.merger(started) || !o.updates(group) {
				t.Errorf("of %s: a result shares memory", showBatch(b))
			}
			batch.Check(b)
			batch.Seek(b, row(1))
			batch.Later(b.Since, b.Since)
			if batch.Check(b) == api.OK && len(b.Updates) > 9 && cmp.Or(why, no) != api.OK {
				t.Errorf("of %s: errors %d and %d", showBatch(b), why, no)
			}
		}
		if whole(b.Since, b.Updates) != told {
			t.Errorf("of %s: an argument was changed", showBatch(b))
		}
	}
}

// 6.3, P3, P4: mergers are as they were, too, also where a sum does not fit; and nothing is left of a call.
func TestNewMemoryOfMergers(t *testing.T) {
	before := runtime.NumGoroutine()
	over := api.Merger{A: []api.Update{up(2, 0, 1), up(1, 0, greatest), up(1, 1, 1)}, B: []api.Update{up(4, 0, 1)}, Since: epoch(1)}
	a := build(t, nil, messy(50)...).Updates
	b := build(t, nil, messy(90)...).Updates
	l := append(rightMergers(t), over, api.Merger{A: a, B: b}, api.Merger{A: a, B: b, Since: epoch(1)}, api.Merger{A: a, Since: epoch(1)}, wrongMergers(t)[13])
	for _, m := range l {
		m = roomyMerger(m)
		told, o := whole(m.Since, m.A, m.B, m.Out), own{}
		o.merger(m)
		for _, fuel := range []int{0, 1, 99, 1, math.MaxInt} {
			w, _, _ := batch.Work(m, fuel)
			e, _ := batch.End(m)
			if !o.merger(w) || !o.batch(e) {
				t.Errorf("of %s: a result shares memory", showMerger(m))
			}
			again, _, _ := batch.Work(w, fuel)
			if !o.merger(again) {
				t.Errorf("of %s: a result shares memory with a result", showMerger(m))
			}
		}
		batch.CheckMerger(m)
		if whole(m.Since, m.A, m.B, m.Out) != told {
			t.Errorf("of %s: an argument was changed", showMerger(m))
		}
	}
	if n := runtime.NumGoroutine(); n > before {
		t.Errorf("%d goroutines are left", n-before)
	}
}

// P1: many updates are merged at once in no long time.
func TestMany(t *testing.T) {
	var a, b []api.Update
	for i := range 1 << 16 {
		u := update(row(i/9), row(i), at(uint64(i%5)), 1)
		a = append(a, u)
		u.Diff = -1
		b = append(b, u)
	}
	m, why := batch.Start(epoch(3), api.Batch{Updates: a}, api.Batch{Updates: b})
	if why != api.OK {
		t.Fatalf("Start: error %d", why)
	}
	e, why := batch.End(work(t, m, math.MaxInt, 1<<17))
	wantBatch(t, "End", e, why, api.Batch{Since: epoch(3)}, api.OK)
}

// 6.2: a step takes all updates of the least Key and Row that is left, whatever is left of it.
func TestLeast(t *testing.T) {
	a, b := build(t, nil, messy(70)...).Updates, build(t, nil, messy(200)[70:]...).Updates
	m := api.Merger{A: a, B: b, Since: []api.Time{at(0, 1), at(1)}}
	for m.I < len(a) || m.J < len(b) {
		left := slices.Concat(a[m.I:], b[m.J:])
		first := slices.MinFunc(left, diff.Compare)
		var taken []api.Update
		for _, u := range left {
			if value.Rows(u.Key, first.Key) == 0 && value.Rows(u.Row, first.Row) == 0 {
				u.Time = moment.Advance(u.Time, m.Since)
				taken = append(taken, u)
			}
		}
		w := work(t, m, 1, len(taken))
		l, _ := diff.Consolidate(taken)
		wantUpdates(t, "Out", w.Out, api.OK, slices.Concat(m.Out, l), api.OK)
		m = w
	}
}
