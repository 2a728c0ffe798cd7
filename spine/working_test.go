package spine_test

import (
	"cmp"
	"math"
	"math/bits"
	"runtime"
	"slices"
	"strconv"
	"testing"

	"freshet/api"
	"freshet/batch"
	"freshet/diff"
	"freshet/moment"
	"freshet/spine"
)

// model is a spine as it is written down, by class: put is done as it is told, one step behind the other.
type model struct {
	since  []api.Time
	levels map[int]api.Level
}

func modelOf(s api.Spine) *model {
	m := &model{since: s.Since, levels: map[int]api.Level{}}
	for _, l := range s.Levels {
		m.levels[l.Class] = l
	}
	return m
}

// spine is the model's levels, the greatest class first.
func (m *model) spine() api.Spine {
	s := api.Spine{Since: m.since}
	for c := 99; c > 0; c-- {
		if l, ok := m.levels[c]; ok {
			s.Levels = append(s.Levels, l)
		}
	}
	return s
}

func (m *model) put(b api.Batch) api.Errno {
	if len(b.Updates) == 0 {
		return api.OK
	}
	c := bits.Len(uint(len(b.Updates)))
	l, ok := m.levels[c]
	if !ok {
		m.levels[c] = api.Level{Class: c, Batch: b}
		return api.OK
	}
	if !l.Busy {
		merger, why := batch.Start(m.since, l.Batch, b)
		m.levels[c] = api.Level{Class: c, Busy: true, Merger: merger}
		return why
	}
	merger, _, why := batch.Work(l.Merger, math.MaxInt)
	if why != api.OK {
		return why
	}
	delete(m.levels, c)
	e, why := batch.End(merger)
	return cmp.Or(why, m.put(b), m.put(e))
}

// work has each class that is Busy at the beginning work, and puts what is finished when all have had their turn.
func (m *model) work(fuel int) (int, api.Errno) {
	var done []api.Batch
	cost := 0
	for c := range 99 {
		l := m.levels[c]
		if !l.Busy || fuel <= 0 {
			continue
		}
		merger, n, why := batch.Work(l.Merger, fuel)
		if why != api.OK {
			return 0, why
		}
		fuel, cost = fuel-n, cost+n
		l.Merger = merger
		m.levels[c] = l
		if e, why := batch.End(merger); why == api.OK {
			done = append(done, e)
			delete(m.levels, c)
		}
	}
	for _, b := range done {
		if why := m.put(b); why != api.OK {
			return 0, why
		}
	}
	return cost, api.OK
}

// inserted holds Insert against the model.
func inserted(t *testing.T, s api.Spine, lists ...[]api.Update) api.Spine {
	t.Helper()
	m := modelOf(s)
	b, no := batch.Build(s.Since, lists...)
	no = cmp.Or(no, m.put(b))
	want := s
	if no == api.OK {
		want = m.spine()
	}
	c, why := spine.Insert(s, lists...)
	wantSpine(t, "Insert of "+show(slices.Concat(lists...))+" into "+showSpine(s), c, why, want, no)
	if spine.Check(c) != api.OK {
		t.Errorf("%s is not valid", showSpine(c))
	}
	return c
}

// worked holds Work against the model.
func worked(t *testing.T, s api.Spine, fuel int) api.Spine {
	t.Helper()
	m := modelOf(s)
	cost, no := m.work(fuel)
	want := s
	if no == api.OK {
		want = m.spine()
	}
	c, n, why := spine.Work(s, fuel)
	wantSpine(t, "Work with "+strconv.Itoa(fuel)+" of "+showSpine(s), c, why, want, no)
	if n != cost || spine.Check(c) != api.OK {
		t.Errorf("Work with %d of %s: cost %d, error %d; want cost %d", fuel, showSpine(s), n, spine.Check(c), cost)
	}
	return c
}

// fuels is with how much Work is tried.
var fuels = []int{math.MinInt, -1, 0, 1, 2, 3, 4, 5, 7, 9, 16, 40, 99, 999, math.MaxInt}

// 7.1, 7.2: spines made by hand go on as it is written down, also with mergers whose Out has nothing to do with their A and B.
func TestModel(t *testing.T) {
	long := []api.Update{}
	for i := range 40 {
		long = append(long, up(-100+i, 5, 1))
	}
	odd := api.Spine{Since: epoch(5), Levels: []api.Level{
		busy(api.Merger{A: ups(0, 4), B: ups(0, 4), Since: epoch(5), Out: long}),
		busy(api.Merger{A: ups(0, 3), B: ups(0, 3), Since: epoch(3)}),
		busy(api.Merger{A: ups(0, 1), B: []api.Update{up(0, 0, -1)}}),
	}}
	for _, s := range append(rightSpines(), example(t), odd, api.Spine{Since: epoch(5), Levels: odd.Levels[1:]}) {
		for _, fuel := range fuels {
			worked(t, worked(t, s, fuel), fuel)
		}
		for n := range 70 {
			c := inserted(t, s, ups(3, n))
			if n < 9 {
				inserted(t, inserted(t, c, ups(n, 1)), ups(n, n), ups(0, 1))
				worked(t, worked(t, worked(t, c, n), n), n)
			}
		}
	}
}

// 7.2
func TestWork(t *testing.T) {
	s := example(t)
	for fuel, want := range map[int]struct {
		cost    int
		classes string
	}{
		math.MinInt: {0, "2 Busy and 1 Busy"},
		-1:          {0, "2 Busy and 1 Busy"},
		0:           {0, "2 Busy and 1 Busy"},
		1:           {1, "2 Busy and 1 Busy"},
		// The merger of class 2 is completed for what comes of class 1, which costs no fuel.
		2: {2, "3 and 2"},
		3: {3, "3 and 2"},
		5: {5, "3 and 2"},
		// Both are finished, and nothing is in the way of what comes of them.
		6:           {6, "3 and 2"},
		math.MaxInt: {6, "3 and 2"},
	} {
		if c := classes(work(t, s, fuel, want.cost)); c != want.classes {
			t.Errorf("Work with %d: %s; want %s", fuel, c, want.classes)
		}
	}
	work(t, api.Spine{}, 9, 0)
	work(t, insert(t, api.Spine{}, ups(1, 9)), 9, 0)
	// A step that costs more than the fuel leaves none for the next merger.
	many := []api.Update{up(1, 0, 1), up(1, 1, 1), up(1, 2, 1), up(1, 3, 1)}
	late := api.Spine{Levels: []api.Level{busy(api.Merger{A: ups(1, 8), B: ups(1, 8)}), busy(api.Merger{A: many, B: many})}}
	for _, fuel := range []int{1, 7, 8} {
		c := work(t, late, fuel, 8)
		if l := c.Levels[0].Merger; l.I != 0 || l.J != 0 || classes(c) != "4 Busy and 3" {
			t.Errorf("Work with %d: %s", fuel, showSpine(c))
		}
	}
	c := work(t, late, 9, 10)
	if l := c.Levels[0].Merger; l.I != 1 || l.J != 1 {
		t.Errorf("Work with 9: %s", showSpine(c))
	}
}

// 7.2: the results of several mergers are put in from that of the smallest class on, and nothing is left of a batch without updates.
func TestWorkTogether(t *testing.T) {
	none := func(from, n int) api.Merger {
		m := api.Merger{A: ups(from, n), B: ups(from, n)}
		for i := range m.B {
			m.B[i].Diff = -1
		}
		return m
	}
	s := api.Spine{Levels: []api.Level{busy(none(1, 4)), busy(none(1, 2)), busy(none(1, 1))}}
	wantSpine(t, "nothing", work(t, s, 99, 14), api.OK, api.Spine{}, api.OK)
	if c := classes(work(t, s, 6, 6)); c != "3 Busy" {
		t.Errorf("Work with 6: %s", c)
	}
	// All three become batches of class 2, of which the second one finds the first one, and the third one both of them.
	two, one := api.Merger{A: ups(1, 3), B: ups(2, 3), Since: epoch(1)}, api.Merger{A: ups(7, 1), B: ups(8, 1)}
	two.B[0].Diff, two.B[1].Diff = -1, -1
	three := none(20, 4)
	three.B[0].Diff, three.B[1].Diff = 1, 1
	s = api.Spine{Since: epoch(2), Levels: []api.Level{busy(three), busy(two), busy(one)}}
	done := []api.Batch{}
	for _, m := range []api.Merger{one, two, three} {
		m, _, _ = batch.Work(m, 99)
		e, _ := batch.End(m)
		done = append(done, e)
	}
	m, _ := batch.Start(epoch(2), done[0], done[1])
	m, _, _ = batch.Work(m, 99)
	e, _ := batch.End(m)
	want := api.Spine{Since: epoch(2), Levels: []api.Level{idle(epoch(2), e.Updates), idle(nil, done[2].Updates)}}
	wantSpine(t, "three", work(t, s, 99, 16), api.OK, want, api.OK)
}

// 7.2: what a merger is given is as old as its batches; its Since is the spine's.
func TestSince(t *testing.T) {
	s := compact(t, insert(t, api.Spine{}, ups(1, 2)), epoch(3))
	s = insert(t, s, ups(1, 3))
	want := api.Merger{A: ups(1, 2), B: []api.Update{up(1, 3, 1), up(2, 3, 1), up(3, 3, 1)}, Since: epoch(3)}
	wantSpine(t, "after Compact", s, api.OK, api.Spine{Since: epoch(3), Levels: []api.Level{busy(want)}}, api.OK)
	s = compact(t, s, epoch(4))
	s = insert(t, s, ups(7, 2))
	old := []api.Update{up(1, 3, 2), up(2, 3, 2), up(3, 3, 1)}
	wantSpine(t, "completed", s, api.OK, api.Spine{Since: epoch(4), Levels: []api.Level{busy(api.Merger{A: []api.Update{up(7, 4, 1), up(8, 4, 1)}, B: old, Since: epoch(4)})}}, api.OK)
}

// 7.2, P2: updates that are not valid come first, in their order, then sums that do not fit; the spine is as it was.
func TestInsertWrong(t *testing.T) {
	over := []api.Update{up(1, 0, greatest), up(1, 0, greatest)}
	for _, s := range []api.Spine{{}, example(t), rightSpines()[7]} {
		for _, u := range wrongUpdates() {
			no := diff.Check([]api.Update{u})
			for _, lists := range [][][]api.Update{{{u}}, {over, {u}}, {{u}, over}, {nil, ups(1, 2), {up(3, 0, 1), u, update(nil, make([]api.Value, 9), at(maxNumber+1), 1)}, {update(nil, nil, at(maxNumber+1), 1)}}} {
				c, why := spine.Insert(s, lists...)
				wantSpine(t, "Insert of "+show([]api.Update{u}), c, why, s, no)
			}
		}
		c, why := spine.Insert(s, over)
		wantSpine(t, "Insert of too many", c, why, s, api.ErrOver)
		wantSpine(t, "Insert of nothing", inserted(t, s), api.OK, s, api.OK)
		wantSpine(t, "Insert of nothing", inserted(t, s, nil, []api.Update{up(1, 2, 3), up(1, 2, -3)}), api.OK, s, api.OK)
		inserted(t, s, over[:1], []api.Update{up(1, 0, 1), up(1, 0, -1)}, ups(50, 9))
	}
}

// 7.2, P2: a merger that is completed may not fit; what was done up to there is not seen.
func TestOver(t *testing.T) {
	bad := busy(api.Merger{A: []api.Update{up(1, 0, greatest), up(2, 0, 1)}, B: []api.Update{up(1, 0, 1), up(3, 0, 1)}})
	good := busy(api.Merger{A: ups(5, 1), B: ups(6, 1)})
	four := busy(api.Merger{A: ups(1, 4), B: ups(1, 4)})
	small := busy(api.Merger{A: []api.Update{up(1, 0, least)}, B: []api.Update{up(1, 0, -1)}})
	s := api.Spine{Levels: []api.Level{four, bad, good}}
	for _, x := range []struct {
		s api.Spine
		n int
	}{{s, 2}, {s, 3}, {s, 1}, {api.Spine{Levels: []api.Level{four, small}}, 1}} {
		c, why := spine.Insert(x.s, ups(11, x.n))
		wantSpine(t, "Insert", c, why, x.s, api.ErrOver)
	}
	inserted(t, s, ups(11, 4))
	inserted(t, s, ups(11, 8))
	for fuel, no := range map[int]api.Errno{-1: api.OK, 0: api.OK, 1: api.OK, 2: api.ErrOver, 3: api.ErrOver, 99: api.ErrOver, math.MaxInt: api.ErrOver} {
		c, n, why := spine.Work(s, fuel)
		if no == api.OK {
			worked(t, s, fuel)
			continue
		}
		wantSpine(t, "Work with "+strconv.Itoa(fuel), c, why, s, no)
		if n != 0 {
			t.Errorf("Work with %d: cost %d", fuel, n)
		}
	}
	// Ahead of what does not fit there is a step that does, or a level.
	late := api.Spine{Levels: []api.Level{busy(api.Merger{A: []api.Update{up(0, 0, 1), up(1, 0, greatest)}, B: []api.Update{up(1, 0, 1), up(3, 0, 1)}})}}
	worked(t, late, 1)
	c, n, why := spine.Work(late, 2)
	wantSpine(t, "Work", c, why, late, api.ErrOver)
	first := api.Spine{Levels: []api.Level{bad, small}}
	d, m, no := spine.Work(first, 1)
	wantSpine(t, "Work", d, no, first, api.ErrOver)
	if n != 0 || m != 0 || why != api.ErrOver {
		t.Errorf("costs %d and %d", n, m)
	}
}

// noise is n numbers that look like chance.
func noise(n int) []uint64 {
	l, x := make([]uint64, n), uint64(88172645463325252)
	for i := range l {
		x ^= x << 13
		x ^= x >> 7
		x ^= x << 17
		l[i] = x >> 11
	}
	return l
}

// messy is many updates of some rows at few times, in no order.
func messy(l []uint64) []api.Update {
	keys := [][]api.Value{row(1), nil, row("b"), row(1, 1)}
	var all []api.Update
	for _, x := range l {
		all = append(all, update(keys[x%4], row(int(x/4%7)), at(x/28%3, x/84%3, x/252%2), int64(x/504%5)-2))
	}
	return all
}

// cube is all times of three numbers up to n.
func cube(n uint64) []api.Time {
	var l []api.Time
	for a := range n + 1 {
		for b := range n + 1 {
			for c := range n + 1 {
				l = append(l, at(a, b, c))
			}
		}
	}
	return l
}

// 7.2, 7.3, 7.5, 7.6, 7.7
func TestMixed(t *testing.T) {
	times := append(cube(3), at(maxNumber, maxNumber, maxNumber))
	for round, size := range []uint64{1, 2, 3, 20} {
		var s api.Spine
		var all []api.Update
		rest := noise(9000)[round:]
		for step := range 120 {
			x := rest[0]
			n := 1 + int(x/8%size)
			l := messy(rest[1 : n+1])
			rest = rest[n+1:]
			switch {
			case x%8 < 5:
				k := int(x/99) % n
				s = inserted(t, s, l[:k], l[k:])
				all = append(all, l...)
			case x%8 < 7:
				s = worked(t, s, fuels[x/8%uint64(len(fuels))])
			case step%10 == 0:
				s = compact(t, s, fronts()[min(step/20, 5)])
			}
			wantAll(t, s)
			if step%15 == 14 {
				wantThere(t, s, all, times)
			}
		}
	}
}

// wantThere holds what is there in a spine at times beyond Since against all that was inserted.
func wantThere(t *testing.T, s api.Spine, all []api.Update, times []api.Time) {
	t.Helper()
	l, no := spine.All(s)
	for _, x := range times {
		if len(s.Since) > 0 && !moment.Beyond(s.Since, x) {
			continue
		}
		want, _ := diff.At(all, x)
		c, why := diff.At(l, x)
		same := func(a, b api.Count) bool { return slices.Equal(a.Row, b.Row) && a.N == b.N }
		if cmp.Or(no, why) != api.OK || !slices.EqualFunc(c, want, same) {
			t.Errorf("at %s: %v, error %d; want %v", showTime(x), c, why, want)
		}
	}
}

// 7.6: at most two batches of each class, at most twice as many as the number of updates has digits.
func TestFew(t *testing.T) {
	for _, fuel := range []int{0, 1, 3} {
		var s api.Spine
		for i := range 300 {
			s = insert(t, s, []api.Update{up(i, uint64(i%5), 1)})
			s, _, _ = spine.Work(s, fuel)
			if b, _, _ := spine.Size(s); b > 2*bits.Len(uint(i+1)) {
				t.Errorf("%d batches after %d insertions", b, i+1)
			}
			count := map[int]int{}
			for _, l := range s.Levels {
				if l.Busy {
					count[bits.Len(uint(len(l.Merger.A)))]++
					count[bits.Len(uint(len(l.Merger.B)))]++
				} else {
					count[bits.Len(uint(len(l.Batch.Updates)))]++
				}
			}
			for c, n := range count {
				if n > 2 {
					t.Errorf("%d batches of class %d", n, c)
				}
			}
		}
	}
}

// own holds the memory of lists.
type own map[any]bool

// add takes up the memory of a list, up to its capacity, and reports whether it is new.
func add[T any](o own, l []T) bool {
	l = l[:cap(l)]
	fresh := true
	for i := range l {
		fresh = fresh && !o[&l[i]]
		o[&l[i]] = true
	}
	return fresh
}

func (o own) updates(l []api.Update) bool {
	fresh := add(o, l)
	for _, u := range l {
		fresh = add(o, u.Key) && add(o, u.Row) && fresh
	}
	return fresh
}

func (o own) spine(s api.Spine) bool {
	fresh := add(o, s.Since) && add(o, s.Levels)
	for _, l := range s.Levels {
		b, m := l.Batch, l.Merger
		fresh = add(o, b.Since) && o.updates(b.Updates) && add(o, m.Since) && o.updates(m.A) && o.updates(m.B) && o.updates(m.Out) && fresh
	}
	return fresh
}

// roomy is updates with spare capacity, marked behind each end; the rows of them all are one and the same where they are equal.
func roomy(l []api.Update) []api.Update {
	rows := map[string][]api.Value{}
	wide := func(r []api.Value) []api.Value {
		s := showRow(r)
		if rows[s] == nil {
			rows[s] = append(slices.Clone(r), row("mark", "mark")...)[:len(r)]
		}
		return rows[s]
	}
	var c []api.Update
	for _, u := range l {
		c = append(c, update(wide(u.Key), wide(u.Row), u.Time, u.Diff))
	}
	return append(c, slices.Repeat([]api.Update{up(99, 99, 99)}, 9)...)[:len(l)]
}

func roomyTimes(l []api.Time) []api.Time {
	return append(slices.Clone(l), at(99), at(99), at(99))[:len(l)]
}

func roomySpine(s api.Spine) api.Spine {
	c := api.Spine{Since: roomyTimes(s.Since)}
	for _, l := range s.Levels {
		b, m := l.Batch, l.Merger
		if l.Busy {
			m = api.Merger{A: roomy(m.A), B: roomy(m.B), I: m.I, J: m.J, Since: roomyTimes(m.Since), Out: roomy(m.Out)}
		} else {
			b = api.Batch{Since: roomyTimes(b.Since), Updates: roomy(b.Updates)}
		}
		c.Levels = append(c.Levels, api.Level{Class: l.Class, Busy: l.Busy, Batch: b, Merger: m})
	}
	return api.Spine{Since: c.Since, Levels: append(c.Levels, make([]api.Level, 5)...)[:len(c.Levels)]}
}

// whole tells all of updates and of times, also what is behind their ends.
func whole(since []api.Time, lists ...[]api.Update) string {
	s := showTimes(since[:cap(since)])
	for _, l := range lists {
		s += show(l[:cap(l)])
		for _, u := range l[:cap(l)] {
			s += showRow(u.Key[:cap(u.Key)]) + showRow(u.Row[:cap(u.Row)])
		}
	}
	return s
}

func wholeSpine(s api.Spine) string {
	t := showSpine(s) + whole(s.Since)
	for _, l := range s.Levels[:cap(s.Levels)] {
		t += whole(l.Batch.Since, l.Batch.Updates) + whole(l.Merger.Since, l.Merger.A, l.Merger.B, l.Merger.Out) + strconv.Itoa(l.Class)
	}
	return t
}

// 7.4, P3, P4: spines are as they were, and what is made of them shares no memory with them, with another result, or among itself; and nothing is left of a call.
func TestNewMemory(t *testing.T) {
	before := runtime.NumGoroutine()
	var grown api.Spine
	for i := range 40 {
		grown = insert(t, grown, messy(noise(50 + i))[i:])
	}
	over := api.Spine{Levels: []api.Level{busy(api.Merger{A: ups(1, 4), B: ups(1, 4)}), busy(api.Merger{A: []api.Update{up(1, 0, greatest)}, B: []api.Update{up(1, 0, 1)}})}}
	l := append(rightSpines(), grown, compact(t, grown, epoch(1)), example(t), over, wrongSpines()[0], wrongSpines()[200])
	for _, s := range l {
		s = roomySpine(s)
		list, times := roomy(messy(noise(20))), roomyTimes(epoch(9))
		told, o := wholeSpine(s)+whole(times, list), own{}
		o.spine(s)
		o.updates(list)
		add(o, times)
		for _, n := range []int{0, 1, 5, 20} {
			inserted, _ := spine.Insert(s, list[:n], list)
			wrong, _ := spine.Insert(s, list, wrongUpdates())
			worked, _, _ := spine.Work(s, n)
			compacted, _ := spine.Compact(s, times)
			refused, _ := spine.Compact(s, wrongFronts()[0])
			again, _, _ := spine.Work(inserted, n)
			all, _ := spine.All(s)
			group, _ := spine.Group(s, nil)
			groups, _ := spine.Groups(s, nil, row(1), nil)
			for i, x := range []api.Spine{inserted, wrong, worked, compacted, refused, again} {
				if !o.spine(x) {
					t.Errorf("of %s: result %d shares memory", showSpine(s), i)
				}
			}
			if !o.updates(all) || !o.updates(group) || slices.ContainsFunc(groups, func(g []api.Update) bool { return !o.updates(g) }) {
				t.Errorf("of %s: updates share memory", showSpine(s))
			}
		}
		spine.Check(s)
		spine.Size(s)
		if wholeSpine(s)+whole(times, list) != told {
			t.Errorf("of %s: an argument was changed", showSpine(s))
		}
	}
	if n := runtime.NumGoroutine(); n > before {
		t.Errorf("%d goroutines are left", n-before)
	}
}

// P1: many updates are inserted, worked and read in no long time.
func TestMany(t *testing.T) {
	var s api.Spine
	for n := range 16 {
		var l []api.Update
		for i := range 1 << n {
			l = append(l, update(row(i%5), row(i), at(uint64(i%3)), 1))
		}
		s = insert(t, insert(t, insert(t, s, l), l), l)
	}
	s, _, why := spine.Work(compact(t, s, epoch(2)), math.MaxInt)
	l, no := spine.All(s)
	if n := 1 << 15; len(l) != n || cmp.Or(why, no) != api.OK {
		t.Errorf("%d updates, errors %d and %d", len(l), why, no)
	}
}
