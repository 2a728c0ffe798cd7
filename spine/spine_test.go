package spine_test

import (
	"math"
	"math/bits"
	"slices"
	"strconv"
	"strings"
	"testing"

	"freshet/api"
	"freshet/batch"
	"freshet/diff"
	"freshet/moment"
	"freshet/spine"
	"freshet/value"
)

// The limits are written out, as they are themselves part of what is tested.
const (
	maxCols   = 8
	maxText   = 64
	maxNumber = 4611686018427387904
)

// greatest and least are the numbers at the ends.
const (
	greatest = math.MaxInt64
	least    = math.MinInt64
)

// row has a number for each integer, and a text for each string.
func row(l ...any) []api.Value {
	var r []api.Value
	for _, x := range l {
		switch x := x.(type) {
		case int:
			r = append(r, api.Value{N: int64(x)})
		case string:
			r = append(r, api.Value{IsText: true, S: x})
		}
	}
	return r
}

// at is an epoch and, if they are given, rounds.
func at(l ...uint64) api.Time {
	l = append(l, 0, 0)
	return api.Time{Epoch: l[0], Loop: [2]uint64{l[1], l[2]}}
}

// epoch is the frontier of one epoch.
func epoch(n uint64) []api.Time {
	return []api.Time{at(n)}
}

func update(key, row []api.Value, t api.Time, n int64) api.Update {
	return api.Update{Key: key, Row: row, Time: t, Diff: n}
}

// up is an update of a row of one number, with an empty key.
func up(n int, epoch uint64, d int64) api.Update {
	return update(nil, row(n), at(epoch), d)
}

// ups is updates of different rows, from one on.
func ups(from, n int) []api.Update {
	var l []api.Update
	for i := range n {
		l = append(l, up(from+i, 0, 1))
	}
	return l
}

func showRow(r []api.Value) string {
	s := "("
	for _, v := range r {
		if v.IsText {
			s += "text "
		}
		s += strconv.FormatInt(v.N, 10) + " " + strconv.Quote(v.S) + ";"
	}
	return s + ")"
}

func showTime(t api.Time) string {
	s := ""
	for _, n := range []uint64{t.Epoch, t.Loop[0], t.Loop[1]} {
		s += " " + strconv.FormatUint(n, 10)
	}
	return s
}

func show(l []api.Update) string {
	var s []string
	for _, u := range l {
		s = append(s, showRow(u.Key)+showRow(u.Row)+showTime(u.Time)+": "+strconv.FormatInt(u.Diff, 10))
	}
	return "[" + strings.Join(s, ", ") + "]"
}

func showTimes(l []api.Time) string {
	var s []string
	for _, t := range l {
		s = append(s, showTime(t))
	}
	return "{" + strings.Join(s, ",") + "}"
}

func showMerger(m api.Merger) string {
	return show(m.A) + " " + strconv.Itoa(m.I) + " " + show(m.B) + " " + strconv.Itoa(m.J) + " " + showTimes(m.Since) + " " + show(m.Out)
}

func showSpine(s api.Spine) string {
	t := showTimes(s.Since)
	for _, l := range s.Levels {
		t += "\n  " + strconv.Itoa(l.Class) + " " + strconv.FormatBool(l.Busy) + " " + showTimes(l.Batch.Since) + show(l.Batch.Updates) + " merging " + showMerger(l.Merger)
	}
	return t
}

func wantSpine(t *testing.T, what string, s api.Spine, why api.Errno, want api.Spine, no api.Errno) {
	t.Helper()
	if g, w := showSpine(s), showSpine(want); why != no || g != w {
		t.Errorf("%s: %s,\nerror %d; want %s,\nerror %d", what, g, why, w, no)
	}
}

func wantUpdates(t *testing.T, what string, l []api.Update, why api.Errno, want []api.Update, no api.Errno) {
	t.Helper()
	if s, w := show(l), show(want); why != no || s != w {
		t.Errorf("%s: %s, error %d; want %s, error %d", what, s, why, w, no)
	}
}

// insert is Insert where it succeeds.
func insert(t *testing.T, s api.Spine, lists ...[]api.Update) api.Spine {
	t.Helper()
	c, why := spine.Insert(s, lists...)
	if why != api.OK || spine.Check(c) != api.OK {
		t.Fatalf("Insert of %s into %s: %s, error %d", show(slices.Concat(lists...)), showSpine(s), showSpine(c), why)
	}
	return c
}

// compact is Compact where it succeeds.
func compact(t *testing.T, s api.Spine, since []api.Time) api.Spine {
	t.Helper()
	c, why := spine.Compact(s, since)
	if why != api.OK || spine.Check(c) != api.OK {
		t.Fatalf("Compact of %s: %s, error %d", showSpine(s), showSpine(c), why)
	}
	return c
}

// work is Work where it succeeds.
func work(t *testing.T, s api.Spine, fuel, cost int) api.Spine {
	t.Helper()
	c, n, why := spine.Work(s, fuel)
	if n != cost || why != api.OK || spine.Check(c) != api.OK {
		t.Fatalf("Work of %s with %d: %s, cost %d, error %d; want cost %d", showSpine(s), fuel, showSpine(c), n, why, cost)
	}
	return c
}

// classes tells the levels.
func classes(s api.Spine) string {
	var l []string
	for _, x := range s.Levels {
		c := strconv.Itoa(x.Class)
		if x.Busy {
			c += " Busy"
		}
		l = append(l, c)
	}
	return strings.Join(l, " and ")
}

// example is the spine of the document's examples.
func example(t *testing.T) api.Spine {
	t.Helper()
	var s api.Spine
	for i, want := range []string{"1", "1 Busy", "2 and 1", "2 and 1 Busy", "2 Busy and 1", "2 Busy and 1 Busy"} {
		s = insert(t, s, []api.Update{up(i, uint64(i), 1)})
		if c := classes(s); c != want {
			t.Errorf("after %d insertions: %s; want %s", i+1, c, want)
		}
	}
	return s
}

func wantSize(t *testing.T, s api.Spine, batches, updates int) {
	t.Helper()
	if b, u, why := spine.Size(s); b != batches || u != updates || why != api.OK {
		t.Errorf("Size of %s: %d, %d, error %d; want %d, %d", showSpine(s), b, u, why, batches, updates)
	}
}

// 7.2, 7.3: the document's examples.
func TestExample(t *testing.T) {
	s := example(t)
	wantSize(t, s, 4, 6)
	work(t, s, 2, 2)
	s = compact(t, s, epoch(3))
	c, why := spine.Compact(s, epoch(2))
	wantSpine(t, "Compact to an epoch before", c, why, s, api.ErrRange)
	want := []api.Update{up(0, 3, 1), up(1, 3, 1), up(2, 3, 1), up(3, 3, 1), up(4, 4, 1), up(5, 5, 1)}
	l, why := spine.All(s)
	wantUpdates(t, "All", l, why, want, api.OK)
	s = insert(t, s, []api.Update{up(0, 0, -1)})
	l, why = spine.All(s)
	wantUpdates(t, "All", l, why, want[1:], api.OK)
	l, why = spine.Group(s, nil)
	wantUpdates(t, "Group of the empty key", l, why, want[1:], api.OK)
	l, why = spine.Group(s, row(1))
	wantUpdates(t, "Group of (1)", l, why, nil, api.OK)
}

// 7.2: the example of three insertions.
func TestThree(t *testing.T) {
	s := insert(t, insert(t, insert(t, api.Spine{}, ups(1, 1)), ups(2, 1)), ups(3, 1))
	want := api.Spine{Levels: []api.Level{{Class: 2, Batch: api.Batch{Updates: ups(1, 2)}}, {Class: 1, Batch: api.Batch{Updates: ups(3, 1)}}}}
	wantSpine(t, "three", s, api.OK, want, api.OK)
}

// wrongFronts is lists of times that are no frontiers of valid times.
func wrongFronts() [][]api.Time {
	return [][]api.Time{
		{at(1), at(1)}, {at(1), at(0)}, {at(0), at(1)}, {at(2, 1), at(1, 2)}, {at(1, 2), at(2, 1), at(2, 2)}, {at(1, 2), at(1, 2), at(2, 1)},
		{at(maxNumber + 1)}, {at(0, maxNumber+1)}, {at(0, 0, maxNumber+1)}, {at(0, 0, math.MaxUint64)}, {at(0, 1), at(maxNumber + 1)},
	}
}

// fronts is frontiers, each of which is later than the one before.
func fronts() [][]api.Time {
	return [][]api.Time{nil, epoch(0), epoch(1), {at(1, 0, 2), at(1, 1, 1), at(2)}, {at(1, 2, 1), at(2, 1, 1)}, {at(2, 2, 1)}, {at(3, 2, 1)}, {at(maxNumber, 2, 1)}, {at(maxNumber, maxNumber, maxNumber)}}
}

// uneven is updates at epoch 9 that are no consolidated list.
func uneven() [][]api.Update {
	l := [][]api.Update{{up(1, 9, 0)}, {up(1, 9, 1), up(1, 9, 1)}, {up(2, 9, 1), up(1, 9, 1)}, {up(1, 10, 1), up(1, 9, 1)}, {up(1, 9, 1), up(2, 9, 0)}}
	for _, u := range wrongUpdates() {
		l = append(l, []api.Update{u}, []api.Update{up(-9, 9, 1), u})
	}
	return l
}

// wrongUpdates is updates that are not valid.
func wrongUpdates() []api.Update {
	var l []api.Update
	for _, r := range [][]api.Value{make([]api.Value, maxCols+1), row(strings.Repeat("x", maxText+1)), {{N: 1, S: "x"}}, {{IsText: true, N: 1}}} {
		l = append(l, update(r, nil, at(9), 1), update(nil, r, at(9), 1))
	}
	for _, t := range []api.Time{at(maxNumber + 1), at(0, maxNumber+1), at(0, 0, maxNumber+1), at(0, 0, math.MaxUint64)} {
		l = append(l, update(nil, row(1), t, 1))
	}
	return l
}

// idle is a level with a batch, of the class that it has.
func idle(since []api.Time, l []api.Update) api.Level {
	return api.Level{Class: bits.Len(uint(len(l))), Batch: api.Batch{Since: since, Updates: l}}
}

// busy is a level with a merger, of the class that A has.
func busy(m api.Merger) api.Level {
	return api.Level{Class: bits.Len(uint(len(m.A))), Busy: true, Merger: m}
}

// classed is a level of another class.
func classed(l api.Level, class int) api.Level {
	l.Class = class
	return l
}

// wrongLevels is levels of which each is wrong in one way in a spine with the Since epoch 5.
func wrongLevels() []api.Level {
	three, two := ups(1, 3), ups(11, 2)
	m := api.Merger{A: three, B: two}
	l := []api.Level{
		{}, {Class: 1}, {Busy: true}, {Class: 1, Busy: true}, {Class: math.MinInt},
		{Class: 2, Busy: true, Batch: api.Batch{Updates: two}, Merger: m}, {Class: 2, Busy: true, Batch: api.Batch{Since: epoch(0)}, Merger: m},
		{Class: 2, Batch: api.Batch{Updates: two}, Merger: m}, {Class: 2, Merger: m}, {Class: 2, Busy: true, Batch: api.Batch{Updates: two}},
		classed(idle(nil, three), 1), classed(idle(nil, three), 3), classed(idle(nil, three), 0), classed(idle(nil, three), -2),
		idle(epoch(6), []api.Update{up(1, 6, 1)}), idle([]api.Time{at(4, 1), at(5, 0, 1)}, []api.Update{update(nil, nil, at(5, 1, 1), 1)}), idle(epoch(5), []api.Update{up(1, 4, 1)}), idle(epoch(5), nil),
		classed(busy(m), 1), classed(busy(m), 3), classed(busy(m), 0), busy(api.Merger{A: three, B: ups(11, 4)}), busy(api.Merger{A: ups(1, 4), B: three}), busy(api.Merger{A: three, B: ups(11, 1)}), busy(api.Merger{A: three}), classed(busy(api.Merger{B: three}), 2),
		busy(api.Merger{A: three, B: two, Since: epoch(6)}), busy(api.Merger{A: three, B: two, Since: []api.Time{at(4, 1), at(5, 0, 1)}}), busy(api.Merger{A: three, B: two, I: 3, J: 2}), busy(api.Merger{A: three, B: two, I: 3, J: 2, Out: ups(1, 1)}),
		busy(api.Merger{A: three, B: two, I: -1}), busy(api.Merger{A: three, B: two, I: 4}), busy(api.Merger{A: three, B: two, J: math.MinInt}), busy(api.Merger{A: three, B: two, J: math.MaxInt}),
		busy(api.Merger{A: three, B: two, I: 1, Out: ups(2, 1)}), busy(api.Merger{A: three, B: two, Since: epoch(1), Out: ups(-1, 1)}),
	}
	for _, x := range []api.Merger{{A: two}, {B: two}, {I: 1}, {J: 1}, {I: -1}, {J: -1}, {Since: epoch(0)}, {Out: two}} {
		l = append(l, api.Level{Class: 2, Batch: api.Batch{Updates: two}, Merger: x}, api.Level{Class: 2, Merger: x})
	}
	for _, f := range wrongFronts() {
		l = append(l, idle(f, []api.Update{up(1, maxNumber, 1)}), busy(api.Merger{A: two, B: three, Since: f}))
	}
	for _, u := range uneven() {
		l = append(l, idle(nil, u), busy(api.Merger{A: u, B: u}), busy(api.Merger{A: u, B: ups(1, len(u))}), busy(api.Merger{A: ups(1, len(u)), B: u}), busy(api.Merger{A: []api.Update{update(row(0), nil, at(0), 1)}, B: []api.Update{update(row(0), nil, at(0), 1)}, Out: u}))
	}
	return l
}

// wrongSpines is spines of which each is wrong in one way.
func wrongSpines() []api.Spine {
	one, two, four := idle(nil, ups(1, 1)), idle(nil, ups(1, 2)), idle(nil, ups(1, 4))
	both := busy(api.Merger{A: ups(1, 2), B: ups(2, 3)})
	var l []api.Spine
	for _, levels := range [][]api.Level{{one, one}, {one, two}, {two, both}, {both, two}, {both, both}, {four, one, two}, {four, two, two}, {one, both}, {four, two, one, one}, {two, four}, {two, one, four}} {
		l = append(l, api.Spine{Levels: levels}, api.Spine{Since: epoch(5), Levels: levels})
	}
	for _, x := range wrongLevels() {
		for _, levels := range [][]api.Level{{x}, {idle(nil, ups(1, 9)), x}, {x, one}, {idle(nil, ups(1, 9)), x, one}} {
			l = append(l, api.Spine{Since: epoch(5), Levels: levels})
		}
	}
	for _, f := range wrongFronts() {
		l = append(l, api.Spine{Since: f}, api.Spine{Since: f, Levels: []api.Level{both, one}})
	}
	// Of an empty frontier only the empty one is later.
	return append(l, api.Spine{Levels: []api.Level{idle(epoch(0), ups(1, 1))}}, api.Spine{Levels: []api.Level{busy(api.Merger{A: ups(1, 1), B: ups(1, 1), Since: epoch(0)})}})
}

// rightSpines is spines made by hand that are valid.
func rightSpines() []api.Spine {
	keyed := []api.Update{update(nil, row("b"), at(1), 3), update(row(1), nil, at(0, 2), -1), update(row(1), row(1), at(2, 0, 1), 4), update(row("a"), row(2), at(1, 1, 1), least)}
	levels := []api.Level{
		idle(nil, ups(-50, 99)),
		busy(api.Merger{A: ups(1, 63), B: ups(20, 33), I: 20, J: 0, Since: epoch(4), Out: []api.Update{up(-1, 4, 9)}}),
		busy(api.Merger{A: ups(1, 8), B: ups(1, 15), I: 8, J: 11, Since: epoch(5), Out: []api.Update{up(-1, 5, 1), up(1, 6, 1), up(1, 7, 1), up(8, 5, 1), up(11, 9, 1)}}),
		idle(nil, keyed),
		busy(api.Merger{A: ups(1, 2), B: ups(2, 3)}),
		idle([]api.Time{at(5)}, []api.Update{update(row(1), nil, at(5, maxNumber), 2)}),
	}
	var l []api.Spine
	for n := range len(levels) + 1 {
		l = append(l, api.Spine{Since: epoch(5), Levels: levels[:n]}, api.Spine{Since: []api.Time{at(5, 2), at(7, 1, 1)}, Levels: levels[n:]})
	}
	for _, f := range append(fronts(), []api.Time{}) {
		l = append(l, api.Spine{Since: f}, api.Spine{Since: f, Levels: levels[3:5]})
	}
	empty := []api.Update{}
	return append(l, api.Spine{Since: []api.Time{}, Levels: []api.Level{{Class: 1, Batch: api.Batch{Since: []api.Time{}, Updates: ups(1, 1)}, Merger: api.Merger{A: empty, B: empty, Since: []api.Time{}, Out: empty}}}})
}

// 7.1, P1, P2: what is wrong is answered by ErrState and nothing else.
func TestCheck(t *testing.T) {
	for _, s := range rightSpines() {
		if why := spine.Check(s); why != api.OK {
			t.Errorf("%s: error %d", showSpine(s), why)
		}
	}
	lists := append(uneven(), nil, ups(1, 3))
	fronts := append(wrongFronts(), nil, epoch(5), epoch(9))
	for _, s := range wrongSpines() {
		if why := spine.Check(s); why != api.ErrState {
			t.Errorf("%s: error %d", showSpine(s), why)
		}
		for _, l := range lists {
			c, why := spine.Insert(s, l)
			wantSpine(t, "Insert into "+showSpine(s), c, why, api.Spine{}, api.ErrState)
		}
		for _, fuel := range []int{-1, 0, 1, 99} {
			c, n, why := spine.Work(s, fuel)
			wantSpine(t, "Work of "+showSpine(s), c, why, api.Spine{}, api.ErrState)
			if n != 0 {
				t.Errorf("Work of %s: cost %d", showSpine(s), n)
			}
		}
		for _, f := range fronts {
			c, why := spine.Compact(s, f)
			wantSpine(t, "Compact of "+showSpine(s), c, why, api.Spine{}, api.ErrState)
		}
		l, why := spine.All(s)
		wantUpdates(t, "All of "+showSpine(s), l, why, nil, api.ErrState)
		l, why = spine.Group(s, nil)
		wantUpdates(t, "Group of "+showSpine(s), l, why, nil, api.ErrState)
		if g, why := spine.Groups(s); len(g) > 0 || why != api.ErrState {
			t.Errorf("Groups of %s: %d, error %d", showSpine(s), len(g), why)
		}
		if b, u, why := spine.Size(s); b != 0 || u != 0 || why != api.ErrState {
			t.Errorf("Size of %s: %d, %d, error %d", showSpine(s), b, u, why)
		}
	}
}

// lists is all updates of a spine as they lie in it.
func lists(s api.Spine) []api.Update {
	var all []api.Update
	for _, l := range s.Levels {
		all = append(all, l.Batch.Updates...)
		all = append(all, l.Merger.A[l.Merger.I:]...)
		all = append(all, l.Merger.B[l.Merger.J:]...)
		all = append(all, l.Merger.Out...)
	}
	return all
}

// keys is of what groups are asked; the last ones are not valid, and compared like others.
func keys() [][]api.Value {
	return [][]api.Value{nil, row(0), row(1), row(1, 1), row("a"), row("b"), {{N: 1, S: "x"}}, {{IsText: true, N: 5, S: "a"}}, make([]api.Value, 99)}
}

// wantAll holds All, Group and Size against what they are of: all updates, each advanced.
func wantAll(t *testing.T, s api.Spine) {
	t.Helper()
	var advanced []api.Update
	for _, u := range lists(s) {
		u.Time = moment.Advance(u.Time, s.Since)
		advanced = append(advanced, u)
	}
	want, no := diff.Consolidate(advanced)
	l, why := spine.All(s)
	wantUpdates(t, "All of "+showSpine(s), l, why, want, no)
	groups, over := spine.Groups(s, keys()...)
	if over != no || no == api.OK && len(groups) != len(keys()) {
		t.Errorf("Groups of %s: %d, error %d", showSpine(s), len(groups), over)
	}
	for i, key := range keys() {
		g, why := spine.Group(s, key)
		if no == api.OK {
			wantUpdates(t, "Groups of "+showRow(key)+" in "+showSpine(s), groups[i], over, g, why)
		}
		other := func(u api.Update) bool { return value.Rows(u.Key, key) != 0 }
		wantUpdates(t, "Group of "+showRow(key)+" in "+showSpine(s), g, why, slices.DeleteFunc(slices.Clone(want), other), no)
	}
	batches := 0
	for _, l := range s.Levels {
		batches++
		if l.Busy {
			batches++
		}
	}
	wantSize(t, s, batches, len(lists(s)))
}

// 7.3, 7.7
func TestAll(t *testing.T) {
	for _, s := range rightSpines() {
		wantAll(t, s)
	}
	s := example(t)
	for _, f := range fronts() {
		wantAll(t, compact(t, s, f))
	}
}

// 7.3: sums that do not fit, of one key or another one, in one level or in several.
func TestAllOver(t *testing.T) {
	key := func(k, n int, d int64) api.Update { return update(row(k), row(n), at(0), d) }
	over := []api.Update{key(1, 1, greatest)}
	three := []api.Update{key(0, 1, 1), key(1, 1, 2), key(2, 1, least)}
	late := []api.Update{update(row(2), row(1), at(4), -1)}
	for _, x := range []struct {
		s    api.Spine
		key  int
		fits []int
	}{
		{api.Spine{Levels: []api.Level{idle(nil, three), idle(nil, over)}}, 1, []int{0, 2, 3}},
		{api.Spine{Levels: []api.Level{busy(api.Merger{A: three[:2], B: three})}}, -1, []int{0, 1, 2, 3}},
		{api.Spine{Levels: []api.Level{busy(api.Merger{A: three, B: three[1:]})}}, 2, []int{0, 1, 3}},
		{api.Spine{Levels: []api.Level{busy(api.Merger{A: three, B: three[1:], I: 1}), idle(nil, late)}}, 2, []int{0, 1, 3}},
		{api.Spine{Levels: []api.Level{idle(nil, three), idle(nil, late)}}, -1, []int{0, 1, 2, 3}},
		{api.Spine{Since: epoch(4), Levels: []api.Level{idle(nil, three), idle(nil, late)}}, 2, []int{0, 1, 3}},
		{api.Spine{Since: epoch(4), Levels: []api.Level{idle(nil, []api.Update{key(1, 1, greatest), update(row(1), row(1), at(4), 1)})}}, 1, []int{0, 2}},
		// A part does not fit, the whole does.
		{api.Spine{Levels: []api.Level{busy(api.Merger{A: []api.Update{key(1, 1, greatest), key(3, 3, 3), key(4, 4, 4), key(5, 5, 5)}, B: []api.Update{key(1, 1, 1), key(4, 4, -4), key(5, 6, 1), key(6, 6, 6)}}), idle(nil, []api.Update{key(1, 1, -1)})}}, -1, []int{0, 1, 3, 4, 5, 6}},
	} {
		l, why := spine.All(x.s)
		if x.key < 0 {
			wantAll(t, x.s)
		} else {
			wantUpdates(t, "All of "+showSpine(x.s), l, why, nil, api.ErrOver)
			l, why = spine.Group(x.s, row(x.key))
			wantUpdates(t, "Group of "+showSpine(x.s), l, why, nil, api.ErrOver)
			if g, why := spine.Groups(x.s, row(x.fits[0]), row(x.key)); len(g) > 0 || why != api.ErrOver {
				t.Errorf("Groups of %s: %d, error %d", showSpine(x.s), len(g), why)
			}
		}
		for _, k := range x.fits {
			var own []api.Update
			for _, u := range lists(x.s) {
				if u.Key[0].N == int64(k) {
					own = append(own, u)
				}
			}
			want, no := batch.Build(x.s.Since, own)
			g, why := spine.Group(x.s, row(k))
			wantUpdates(t, "Group of "+showSpine(x.s), g, why, want.Updates, no)
			if no != api.OK {
				t.Errorf("Group of %d: error %d", k, no)
			}
		}
	}
}

// 7.3, P2: what is no frontier comes first, then what is not later; else Since is another one, and the levels stay.
func TestCompact(t *testing.T) {
	all := fronts()
	for i, from := range all {
		s := compact(t, insert(t, insert(t, api.Spine{}, ups(1, 3)), ups(1, 3)), from)
		wantSpine(t, "Compact", s, api.OK, api.Spine{Since: from, Levels: s.Levels}, api.OK)
		for j, to := range all {
			c, why := spine.Compact(s, to)
			if j < i {
				wantSpine(t, "Compact to "+showTimes(to), c, why, s, api.ErrRange)
			} else {
				wantSpine(t, "Compact to "+showTimes(to), c, why, api.Spine{Since: to, Levels: s.Levels}, api.OK)
			}
		}
		for _, to := range wrongFronts() {
			c, why := spine.Compact(s, to)
			wantSpine(t, "Compact to "+showTimes(to), c, why, s, api.ErrForm)
		}
	}
	s := api.Spine{Since: []api.Time{at(1, 2), at(2, 1)}}
	for _, to := range [][]api.Time{{at(1, 1)}, {at(1, 2), at(2)}, {at(0, 3), at(3, 2)}, {at(0, 0, 9), at(2, 1)}, nil} {
		c, why := spine.Compact(s, to)
		wantSpine(t, "Compact to "+showTimes(to), c, why, s, api.ErrRange)
	}
	compact(t, s, []api.Time{at(1, 3), at(3, 1)})
	compact(t, s, []api.Time{at(2, 1, 1)})
}
