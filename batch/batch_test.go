package batch_test

import (
	"math"
	"slices"
	"strconv"
	"strings"
	"testing"

	"freshet/api"
	"freshet/batch"
	"freshet/diff"
	"freshet/moment"
	"freshet/value"
)

// The limits are written out, as they are themselves part of what is tested.
const (
	maxCols   = 8
	maxText   = 64
	maxNumber = 4611686018427387904
)

// greatest and least are the numbers at the ends.
const (
	greatest = math.MaxInt64
	least    = math.MinInt64
)

// row has a number for each integer, and a text for each string.
func row(l ...any) []api.Value {
	var r []api.Value
	for _, x := range l {
		switch x := x.(type) {
		case int:
			r = append(r, api.Value{N: int64(x)})
		case string:
			r = append(r, api.Value{IsText: true, S: x})
		}
	}
	return r
}

// at is an epoch and, if they are given, rounds.
func at(l ...uint64) api.Time {
	l = append(l, 0, 0)
	return api.Time{Epoch: l[0], Loop: [2]uint64{l[1], l[2]}}
}

// epoch is the frontier of one epoch.
func epoch(n uint64) []api.Time {
	return []api.Time{at(n)}
}

func update(key, row []api.Value, t api.Time, n int64) api.Update {
	return api.Update{Key: key, Row: row, Time: t, Diff: n}
}

// up is an update of a row of one number, whose key is its parity.
func up(n int, epoch uint64, d int64) api.Update {
	return update(row(n%2), row(n), at(epoch), d)
}

// build is a batch of updates for which there is one.
func build(t *testing.T, since []api.Time, l ...api.Update) api.Batch {
	t.Helper()
	b, why := batch.Build(since, l)
	if why != api.OK {
		t.Fatalf("Build of %s: error %d", show(l), why)
	}
	return b
}

// example is the batches of the document's examples.
func example(t *testing.T) (a, b api.Batch) {
	t.Helper()
	return build(t, nil, up(1, 0, 1), up(2, 0, 1), up(3, 4, 1)), build(t, epoch(1), up(1, 0, -1), up(2, 3, 2), up(4, 0, 1))
}

func showRow(r []api.Value) string {
	s := "("
	for _, v := range r {
		if v.IsText {
			s += "text "
		}
		s += strconv.FormatInt(v.N, 10) + " " + strconv.Quote(v.S) + ";"
	}
	return s + ")"
}

func showTime(t api.Time) string {
	s := ""
	for _, n := range []uint64{t.Epoch, t.Loop[0], t.Loop[1]} {
		s += " " + strconv.FormatUint(n, 10)
	}
	return s
}

func show(l []api.Update) string {
	var s []string
	for _, u := range l {
		s = append(s, showRow(u.Key)+showRow(u.Row)+showTime(u.Time)+": "+strconv.FormatInt(u.Diff, 10))
	}
	return "[" + strings.Join(s, ", ") + "]"
}

func showBatch(b api.Batch) string {
	var s []string
	for _, t := range b.Since {
		s = append(s, showTime(t))
	}
	return "{" + strings.Join(s, ",") + " " + show(b.Updates) + "}"
}

func wantBatch(t *testing.T, what string, b api.Batch, why api.Errno, want api.Batch, no api.Errno) {
	t.Helper()
	if s, w := showBatch(b), showBatch(want); why != no || s != w {
		t.Errorf("%s: %s, error %d; want %s, error %d", what, s, why, w, no)
	}
}

func wantUpdates(t *testing.T, what string, l []api.Update, why api.Errno, want []api.Update, no api.Errno) {
	t.Helper()
	if s, w := show(l), show(want); why != no || s != w {
		t.Errorf("%s: %s, error %d; want %s, error %d", what, s, why, w, no)
	}
}

// wrongFronts is lists of times that are no frontiers of valid times.
func wrongFronts() [][]api.Time {
	return [][]api.Time{
		{at(1), at(1)}, {at(1), at(0)}, {at(0), at(1)}, {at(2, 1), at(1, 2)}, {at(1, 2), at(2, 1), at(2, 2)}, {at(1, 2), at(1, 2), at(2, 1)},
		{at(maxNumber + 1)}, {at(0, maxNumber+1)}, {at(0, 0, maxNumber+1)}, {at(0, 0, math.MaxUint64)}, {at(0, 1), at(maxNumber + 1)},
	}
}

// fronts is frontiers.
func fronts() [][]api.Time {
	return [][]api.Time{nil, {}, epoch(0), epoch(1), epoch(2), epoch(maxNumber), {at(1, 2), at(2, 1)}, {at(0, 0, 2), at(0, 1, 1), at(1)}, {at(0, 2), at(2)}, {at(1, 1, 1)}, {at(0, 0, maxNumber), at(0, maxNumber), at(maxNumber)}}
}

// wrongUpdates is updates that are not valid, with their errors.
func wrongUpdates() map[api.Errno][]api.Update {
	l := map[api.Errno][]api.Update{}
	for _, r := range [][]api.Value{make([]api.Value, maxCols+1), row(strings.Repeat("x", maxText+1)), {{N: 1, S: "x"}}, {{IsText: true, N: 1}}} {
		l[api.ErrForm] = append(l[api.ErrForm], update(r, nil, at(9), 1), update(nil, r, at(9), 1), update(nil, r, at(maxNumber+1), 1))
	}
	for _, t := range []api.Time{at(maxNumber + 1), at(0, maxNumber+1), at(0, 0, maxNumber+1), at(0, 0, math.MaxUint64)} {
		l[api.ErrRange] = append(l[api.ErrRange], update(nil, nil, t, 1))
	}
	return l
}

// uneven is lists of updates at epoch 9 that are not consolidated.
func uneven() [][]api.Update {
	l := [][]api.Update{{up(1, 9, 0)}, {up(1, 9, 1), up(1, 9, 1)}, {up(1, 9, 1), up(2, 9, 1)}, {up(3, 9, 1), up(1, 9, 1)}, {up(1, 10, 1), up(1, 9, 1)}, {up(2, 9, 1), up(1, 9, 0)}}
	for _, wrong := range wrongUpdates() {
		for _, u := range wrong {
			l = append(l, []api.Update{u})
		}
	}
	return l
}

// wrongBatches is batches of which each is wrong in one way.
func wrongBatches() []api.Batch {
	l := []api.Batch{
		{Since: epoch(9), Updates: []api.Update{up(2, 0, 1), up(1, 0, 1), up(3, 4, 1)}},
		{Since: epoch(1), Updates: []api.Update{up(1, 0, 1)}},
		{Since: epoch(1), Updates: []api.Update{up(2, 1, 1), up(1, 0, 1)}},
		{Since: []api.Time{at(1, 2), at(2, 1)}, Updates: []api.Update{update(nil, nil, at(1, 0), 1)}},
		{Since: []api.Time{at(1, 2), at(2, 1)}, Updates: []api.Update{update(nil, nil, at(0, 5), 1)}},
		{Since: []api.Time{at(0, 0, 1)}, Updates: []api.Update{update(nil, nil, at(9, 9), 1)}},
	}
	for _, f := range wrongFronts() {
		l = append(l, api.Batch{Since: f})
	}
	for _, u := range uneven() {
		l = append(l, api.Batch{Updates: u}, api.Batch{Since: epoch(1), Updates: u})
	}
	return l
}

// rightBatches is batches that are valid.
func rightBatches() []api.Batch {
	l := []api.Batch{
		{Updates: []api.Update{up(2, 0, 1), up(1, 0, 1), up(3, 4, 1)}},
		{Since: epoch(1), Updates: []api.Update{up(2, 3, 2), up(4, 1, 1), up(1, 1, -1)}},
		{Since: epoch(9), Updates: []api.Update{up(2, 9, least), up(1, 9, greatest), up(1, 10, 1)}},
		{Since: []api.Time{at(1, 2), at(2, 1)}, Updates: []api.Update{update(nil, nil, at(1, 1), 1), update(nil, nil, at(1, 5), 1), update(nil, nil, at(3, 1, 7), 1)}},
		{Updates: []api.Update{update(nil, nil, at(0), 1), update(make([]api.Value, maxCols), row(strings.Repeat("x", maxText)), at(maxNumber, maxNumber, maxNumber), 1)}},
	}
	for _, f := range fronts() {
		l = append(l, api.Batch{Since: f}, api.Batch{Since: f, Updates: []api.Update{update(nil, nil, at(maxNumber, maxNumber, maxNumber), 1)}})
	}
	return l
}

// 6.1
func TestCheck(t *testing.T) {
	for _, b := range rightBatches() {
		if why := batch.Check(b); why != api.OK {
			t.Errorf("%s: error %d", showBatch(b), why)
		}
	}
	for _, b := range wrongBatches() {
		if why := batch.Check(b); why != api.ErrForm {
			t.Errorf("%s: error %d", showBatch(b), why)
		}
	}
}

// 6.1
func TestBuild(t *testing.T) {
	a, b := example(t)
	wantBatch(t, "a", a, api.OK, api.Batch{Updates: []api.Update{up(2, 0, 1), up(1, 0, 1), up(3, 4, 1)}}, api.OK)
	wantBatch(t, "b", b, api.OK, api.Batch{Since: epoch(1), Updates: []api.Update{up(2, 3, 2), up(4, 1, 1), up(1, 1, -1)}}, api.OK)
	for _, x := range []struct {
		since []api.Time
		lists [][]api.Update
		want  []api.Update
		no    api.Errno
	}{
		{nil, nil, nil, api.OK},
		{epoch(3), [][]api.Update{nil, {}}, nil, api.OK},
		{epoch(3), [][]api.Update{{up(1, 0, 2)}, {up(1, 2, 3), up(1, 3, 4)}, {up(1, 4, 5)}}, []api.Update{up(1, 3, 9), up(1, 4, 5)}, api.OK},
		{epoch(3), [][]api.Update{{up(1, 0, 2), up(1, 2, -2)}}, nil, api.OK},
		{epoch(1), [][]api.Update{{up(1, 0, 2), up(1, 2, -2)}}, []api.Update{up(1, 1, 2), up(1, 2, -2)}, api.OK},
		{epoch(1), [][]api.Update{{up(1, 0, greatest)}, {up(1, 1, 1)}, {up(1, 0, -1)}}, []api.Update{up(1, 1, greatest)}, api.OK},
		{epoch(1), [][]api.Update{{up(1, 0, greatest)}, {up(1, 1, 1)}}, nil, api.ErrOver},
		{epoch(0), [][]api.Update{{up(1, 0, greatest)}, {up(1, 1, 1)}}, []api.Update{up(1, 0, greatest), up(1, 1, 1)}, api.OK},
		{nil, [][]api.Update{{up(1, 5, least), up(2, 0, 1)}, {up(1, 5, -1)}}, nil, api.ErrOver},
		{[]api.Time{at(1, 2), at(2, 1)}, [][]api.Update{{update(nil, nil, at(0, 0), 1), update(nil, nil, at(0, 5, 1), 2), update(nil, nil, at(1, 1), 4), update(nil, nil, at(1, 5, 1), 8)}}, []api.Update{update(nil, nil, at(1, 1), 5), update(nil, nil, at(1, 5, 1), 10)}, api.OK},
	} {
		b, why := batch.Build(x.since, x.lists...)
		want := api.Batch{Since: x.since, Updates: x.want}
		if x.no != api.OK {
			want = api.Batch{}
		}
		wantBatch(t, "Build of "+show(slices.Concat(x.lists...)), b, why, want, x.no)
		if why == api.OK && batch.Check(b) != api.OK {
			t.Errorf("%s is not valid", showBatch(b))
		}
	}
}

// 6.1, P2: the frontier comes first, then the updates, list by list, then sums that do not fit.
func TestBuildWrong(t *testing.T) {
	over := []api.Update{up(1, 0, greatest), up(1, 0, greatest)}
	fronts := fronts()
	for want, l := range wrongUpdates() {
		for _, u := range l {
			late, form := update(nil, nil, at(maxNumber+1), 1), update(make([]api.Value, 9), nil, at(0), 1)
			for _, lists := range [][][]api.Update{{{u}}, {{up(1, 2, 3), u, late, form}}, {over, {u}}, {{u}, over}, {nil, over, {u}, {late}}, {{u}, {form}}} {
				for _, f := range fronts {
					b, why := batch.Build(f, lists...)
					wantBatch(t, "Build with "+show([]api.Update{u}), b, why, api.Batch{}, want)
				}
				for _, f := range wrongFronts() {
					b, why := batch.Build(f, lists...)
					wantBatch(t, "Build of no frontier", b, why, api.Batch{}, api.ErrForm)
				}
			}
		}
	}
	for _, f := range wrongFronts() {
		for _, l := range [][]api.Update{nil, over, {up(1, 2, 3)}} {
			b, why := batch.Build(f, l)
			wantBatch(t, "Build of no frontier", b, why, api.Batch{}, api.ErrForm)
		}
	}
}

// noise is n numbers that look like chance.
func noise(n int) []uint64 {
	l, x := make([]uint64, n), uint64(88172645463325252)
	for i := range l {
		x ^= x << 13
		x ^= x >> 7
		x ^= x << 17
		l[i] = x >> 11
	}
	return l
}

// messy is many updates of few rows at few times, in no order.
func messy(n int) []api.Update {
	rows := [][]api.Value{row(1), nil, row("b"), row(1, "a")}
	var l []api.Update
	for _, x := range noise(n) {
		l = append(l, update(rows[x%3], rows[x/3%4], at(x/12%3, x/36%3, x/108%2), int64(x/216%5)-2))
	}
	return l
}

// cube is all times of three numbers up to n.
func cube(n uint64) []api.Time {
	var l []api.Time
	for a := range n + 1 {
		for b := range n + 1 {
			for c := range n + 1 {
				l = append(l, at(a, b, c))
			}
		}
	}
	return l
}

// 6.5
func TestThere(t *testing.T) {
	for _, f := range fronts() {
		for _, n := range []int{0, 1, 5, 30, 200} {
			l := messy(n)
			b := build(t, f, l...)
			for _, x := range append(cube(3), at(maxNumber, maxNumber, maxNumber)) {
				if len(f) > 0 && !moment.Beyond(f, x) {
					continue
				}
				want, no := diff.At(l, x)
				c, why := diff.At(b.Updates, x)
				same := func(a, b api.Count) bool { return slices.Equal(a.Row, b.Row) && a.N == b.N }
				if why != no || !slices.EqualFunc(c, want, same) {
					t.Errorf("at %s: %v, error %d; want %v, error %d", showTime(x), c, why, want, no)
				}
			}
		}
	}
}

// 6.1
func TestSeekAndGroup(t *testing.T) {
	l := []api.Update{
		update(nil, nil, at(0), 1), update(nil, row(1), at(0), 1),
		update(row(0), row(2), at(0), 1), update(row(0), row(2), at(1), 1), update(row(0), row(4), at(0), 1),
		update(row(0, 0), nil, at(0), 1), update(row(1), nil, at(0), 1), update(row(7), row(8), at(0), 1), update(row(7), row(9), at(0), 1),
		update(row("a"), nil, at(0), 1), update(row("a"), nil, at(0, 1), 1),
	}
	b := api.Batch{Updates: l}
	for _, x := range []struct {
		key  []api.Value
		i, j int
	}{
		{nil, 0, 2},
		{row(-5), 2, 2},
		{row(0), 2, 5},
		{row(0, -1), 5, 5},
		{row(0, 0), 5, 6},
		{row(0, 0, 0), 6, 6},
		{row(0, ""), 6, 6},
		{row(1), 6, 7},
		{row(3), 7, 7},
		{row(7), 7, 9},
		{row(8), 9, 9},
		{row(""), 9, 9},
		{row("a"), 9, 11},
		{row("a", 0), 11, 11},
		{row("b"), 11, 11},
		// Keys that are not valid are compared like others.
		{[]api.Value{{N: 7, S: "x"}}, 7, 9},
		{[]api.Value{{IsText: true, N: 7, S: "a"}}, 9, 11},
		{make([]api.Value, 99), 6, 6},
		{row(strings.Repeat("a", 99)), 11, 11},
	} {
		i, why := batch.Seek(b, x.key)
		if i != x.i || why != api.OK {
			t.Errorf("Seek of %s: %d, error %d; want %d", showRow(x.key), i, why, x.i)
		}
		g, why := batch.Group(b, x.key)
		wantUpdates(t, "Group of "+showRow(x.key), g, why, l[x.i:x.j], api.OK)
		if cap(g) != len(g) {
			t.Errorf("Group of %s has spare capacity", showRow(x.key))
		}
	}
	for _, key := range [][]api.Value{nil, row(1)} {
		i, why := batch.Seek(api.Batch{}, key)
		if i != 0 || why != api.OK {
			t.Errorf("Seek in an empty batch: %d, error %d", i, why)
		}
		g, why := batch.Group(api.Batch{}, key)
		wantUpdates(t, "Group of an empty batch", g, why, nil, api.OK)
		for _, b := range wrongBatches() {
			if i, why := batch.Seek(b, key); i != 0 || why != api.ErrForm {
				t.Errorf("Seek in %s: %d, error %d", showBatch(b), i, why)
			}
			g, why := batch.Group(b, key)
			wantUpdates(t, "Group of "+showBatch(b), g, why, nil, api.ErrForm)
		}
	}
}

// 6.1: all keys of many updates.
func TestGroups(t *testing.T) {
	b := build(t, epoch(1), messy(300)...)
	for _, key := range [][]api.Value{nil, row(0), row(1), row(2), row("a"), row("b"), row("c")} {
		i := 0
		var want []api.Update
		for _, u := range b.Updates {
			switch value.Rows(u.Key, key) {
			case -1:
				i++
			case 0:
				want = append(want, u)
			}
		}
		if j, why := batch.Seek(b, key); j != i || why != api.OK {
			t.Errorf("Seek of %s: %d, error %d; want %d", showRow(key), j, why, i)
		}
		g, why := batch.Group(b, key)
		wantUpdates(t, "Group of "+showRow(key), g, why, want, api.OK)
	}
}

// 6.1: of frontiers, and of any lists of any times.
func TestLater(t *testing.T) {
	for _, x := range []struct {
		since, than []api.Time
		want        bool
	}{
		{nil, epoch(0), false},
		{nil, nil, true},
		{[]api.Time{}, nil, true},
		{epoch(3), epoch(3), true},
		{epoch(4), epoch(3), true},
		{epoch(2), epoch(3), false},
		{epoch(0), nil, true},
		{epoch(0), []api.Time{}, true},
		{epoch(maxNumber), epoch(0), true},
		{nil, epoch(9), false},
		{[]api.Time{at(1, 2), at(2, 1)}, []api.Time{at(1, 1)}, true},
		{[]api.Time{at(1, 1)}, []api.Time{at(1, 2), at(2, 1)}, false},
		{[]api.Time{at(2, 2)}, []api.Time{at(1, 2), at(2, 1)}, true},
		{[]api.Time{at(1, 2), at(2, 0)}, []api.Time{at(1, 2), at(2, 1)}, false},
		{[]api.Time{at(0, 2), at(2, 1)}, []api.Time{at(1, 2), at(2, 1)}, false},
		{[]api.Time{at(1, 2), at(2, 1)}, []api.Time{at(1, 2), at(2, 1)}, true},
		{[]api.Time{at(0, 9)}, []api.Time{at(0, 2), at(2, 0)}, true},
		{[]api.Time{at(math.MaxUint64)}, epoch(maxNumber + 1), true},
		{epoch(maxNumber + 1), []api.Time{at(math.MaxUint64)}, false},
		{[]api.Time{at(5), at(5), at(4)}, []api.Time{at(9), at(4), at(4)}, true},
		{[]api.Time{at(5), at(3), at(5)}, []api.Time{at(9), at(4), at(4)}, false},
	} {
		if ok := batch.Later(x.since, x.than); ok != x.want {
			t.Errorf("Later of %s and %s: %t", showBatch(api.Batch{Since: x.since}), showBatch(api.Batch{Since: x.than}), ok)
		}
	}
}
