package diff_test

import (
	"math/big"
	"runtime"
	"slices"
	"testing"

	"freshet/api"
	"freshet/diff"
	"freshet/moment"
	"freshet/value"
)

// noise is n numbers that look like chance.
func noise(n int) []uint64 {
	l, x := make([]uint64, n), uint64(88172645463325252)
	for i := range l {
		x ^= x << 13
		x ^= x >> 7
		x ^= x << 17
		l[i] = x >> 11
	}
	return l
}

// messy is many updates of few rows at few times, in no order.
func messy(n int) []api.Update {
	rows := [][]api.Value{nil, row(1), row(1, "a"), row("b")}
	diffs := []int64{1, -1, 2, -2, 0, 3, greatest, least}
	var l []api.Update
	for _, x := range noise(n) {
		t := at(x%3, x/3%2, x/6%2)
		l = append(l, update(rows[x/12%2], rows[x/24%4], t, diffs[x/96%8]))
	}
	return l
}

// mild is as messy, but its sums fit.
func mild(n int) []api.Update {
	l := messy(n)
	for i, u := range l {
		l[i].Diff = u.Diff % 5
	}
	return l
}

// consolidated is the consolidated list as it is written down.
func consolidated(l []api.Update) ([]api.Update, api.Errno) {
	same := func(a, b api.Update) bool {
		return slices.Equal(a.Key, b.Key) && slices.Equal(a.Row, b.Row) && a.Time == b.Time
	}
	var all []api.Update
	for i, u := range l {
		if slices.ContainsFunc(l[:i], func(x api.Update) bool { return same(x, u) }) {
			continue
		}
		var diffs []int64
		for _, x := range l {
			if same(x, u) {
				diffs = append(diffs, x.Diff)
			}
		}
		n, why := added(diffs...)
		if why != api.OK {
			return nil, why
		}
		if n != 0 {
			all = append(all, update(u.Key, u.Row, u.Time, n))
		}
	}
	slices.SortFunc(all, func(a, b api.Update) int {
		if c := value.Rows(a.Key, b.Key); c != 0 {
			return c
		}
		if c := value.Rows(a.Row, b.Row); c != 0 {
			return c
		}
		return moment.Compare(a.Time, b.Time)
	})
	return all, api.OK
}

// summed is what counts come to, as it is written down.
func summed(l []api.Count) ([]api.Count, api.Errno) {
	sums := map[string]*big.Int{}
	for _, c := range l {
		s, _ := value.Encode(c.Row)
		if sums[s] == nil {
			sums[s] = new(big.Int)
		}
		sums[s].Add(sums[s], big.NewInt(c.N))
	}
	var all []api.Count
	for s, n := range sums {
		r, _, _ := value.Take(s)
		k, why := fit(n)
		if why != api.OK {
			return nil, why
		}
		if k != 0 {
			all = append(all, api.Count{Row: r, N: k})
		}
	}
	slices.SortFunc(all, func(a, b api.Count) int { return value.Rows(a.Row, b.Row) })
	return all, api.OK
}

// there is what the updates at or before t come to, as it is written down.
func there(l []api.Update, t api.Time) ([]api.Count, api.Errno) {
	var c []api.Count
	for _, u := range l {
		if u.Time.Epoch <= t.Epoch && u.Time.Loop[0] <= t.Loop[0] && u.Time.Loop[1] <= t.Loop[1] {
			c = append(c, api.Count{Row: u.Row, N: u.Diff})
		}
	}
	return summed(c)
}

// 5.2
func TestConsolidate(t *testing.T) {
	k := func(key, n int, d int64) api.Update { return update(row(key), row(n), at(0), d) }
	for _, x := range []struct {
		lists [][]api.Update
		want  []api.Update
		no    api.Errno
	}{
		{nil, nil, api.OK},
		{[][]api.Update{nil, {}}, nil, api.OK},
		{[][]api.Update{example()}, []api.Update{up(1, 3, 1), up(1, 5, 3)}, api.OK},
		{[][]api.Update{{up(1, 0, 2)}, {up(1, 0, -2)}}, nil, api.OK},
		{[][]api.Update{{up(1, 0, 0)}}, nil, api.OK},
		{[][]api.Update{{up(1, 0, 7)}}, []api.Update{up(1, 0, 7)}, api.OK},
		{[][]api.Update{{up(1, 0, greatest), up(1, 0, 1)}, {up(1, 0, -1)}}, []api.Update{up(1, 0, greatest)}, api.OK},
		{[][]api.Update{{up(1, 0, least)}, {up(1, 0, -1)}, {up(1, 0, 1)}}, []api.Update{up(1, 0, least)}, api.OK},
		{[][]api.Update{{up(1, 0, greatest), up(1, 0, greatest), up(1, 0, 2)}}, nil, api.ErrOver},
		{[][]api.Update{{up(1, 0, greatest)}, {up(0, 0, 5)}, {up(1, 0, 1)}}, nil, api.ErrOver},
		{[][]api.Update{{up(1, 0, least)}, {up(2, 0, 5)}, {up(1, 0, -1)}}, nil, api.ErrOver},
		{[][]api.Update{{up(1, 0, greatest), up(1, 1, greatest), up(2, 0, greatest)}}, []api.Update{up(1, 0, greatest), up(1, 1, greatest), up(2, 0, greatest)}, api.OK},
		// What differs in one thing alone is not the same.
		{[][]api.Update{{k(2, 1, 1), k(1, 2, 1)}, {k(1, 1, 1), k(2, 2, 1), k(1, 1, 1)}}, []api.Update{k(1, 1, 2), k(1, 2, 1), k(2, 1, 1), k(2, 2, 1)}, api.OK},
		{[][]api.Update{{update(nil, nil, at(0, 1), 1), update(nil, nil, at(0, 0, 1), 1), update(nil, nil, at(1), 1)}}, []api.Update{update(nil, nil, at(0, 0, 1), 1), update(nil, nil, at(0, 1), 1), update(nil, nil, at(1), 1)}, api.OK},
		{[][]api.Update{{update(row("1"), nil, at(0), 1), update(row(1), nil, at(0), 1), update(nil, row(1), at(0), 1)}}, []api.Update{update(nil, row(1), at(0), 1), update(row(1), nil, at(0), 1), update(row("1"), nil, at(0), 1)}, api.OK},
	} {
		l, why := diff.Consolidate(x.lists...)
		wantUpdates(t, "Consolidate of "+show(slices.Concat(x.lists...), showUpdate), l, why, x.want, x.no)
	}
	l, why := diff.Consolidate(right())
	want, _ := consolidated(right())
	wantUpdates(t, "Consolidate", l, why, want, api.OK)
}

// 5.2, P2: an error of Check comes ahead of sums that do not fit; of several, that of the first list.
func TestConsolidateWrong(t *testing.T) {
	over, good := []api.Update{up(1, 0, greatest), up(1, 0, greatest)}, example()
	for want, lists := range wrong() {
		for _, l := range lists {
			late, form := []api.Update{up(1, maxNumber+1, 1)}, []api.Update{update(wide(9), nil, at(0), 1)}
			for _, x := range [][][]api.Update{{l}, {good, l}, {over, l}, {l, over}, {nil, over, good, l}, {l, late}, {l, form}, {good, l, late, form}} {
				c, why := diff.Consolidate(x...)
				wantUpdates(t, "Consolidate with "+show(l, showUpdate), c, why, nil, want)
			}
		}
	}
}

// 5.4: the order and the lists do not matter.
func TestAnyOrder(t *testing.T) {
	for _, all := range [][]api.Update{example(), mild(100), mild(400), messy(30), messy(60), messy(300), ascending()} {
		want, no := consolidated(all)
		for i, x := range noise(40) {
			l := slices.Clone(all)
			for j, y := range noise(len(l)) {
				k := int((y + x) % uint64(j+1))
				l[j], l[k] = l[k], l[j]
			}
			lists := make([][]api.Update, 1+i%7)
			for j, u := range l {
				k := (j + int(x%97)) * i % len(lists)
				lists[k] = append(lists[k], u)
			}
			c, why := diff.Consolidate(lists...)
			wantUpdates(t, "Consolidate", c, why, want, no)
			if why == api.OK && !diff.Even(c) {
				t.Errorf("Consolidate: %s is not consolidated", show(c, showUpdate))
			}
		}
	}
}

// 5.2
func TestAt(t *testing.T) {
	count := func(n int, k int64) api.Count { return api.Count{Row: row(n), N: k} }
	keys := []api.Update{update(row(1), row(7), at(0), 2), update(row(2), row(7), at(0), 3), update(nil, row(7), at(1), -5), update(row("x"), row(6), at(0), 1)}
	rounds := []api.Update{update(nil, row(1), at(1, 2, 0), 1), update(nil, row(1), at(2, 1, 0), 10), update(nil, row(1), at(0, 0, 3), 100)}
	// At epoch 0 the sum does not fit, from 1 on it does, and from 2 on it does not.
	over := []api.Update{up(1, 2, 9), up(1, 0, greatest), up(1, 1, -3), up(1, 0, 1), up(2, 0, 1)}
	for _, x := range []struct {
		l    []api.Update
		t    api.Time
		want []api.Count
		no   api.Errno
	}{
		{nil, at(0), nil, api.OK},
		{example(), at(0), nil, api.OK},
		{example(), at(2), nil, api.OK},
		{example(), at(3), []api.Count{count(1, 1)}, api.OK},
		{example(), at(4, 9, 9), []api.Count{count(1, 1)}, api.OK},
		{example(), at(5), []api.Count{count(1, 4)}, api.OK},
		{example(), at(maxNumber, maxNumber, maxNumber), []api.Count{count(1, 4)}, api.OK},
		{keys, at(0), []api.Count{count(6, 1), count(7, 5)}, api.OK},
		{keys, at(1), []api.Count{count(6, 1)}, api.OK},
		{rounds, at(1, 1, 1), nil, api.OK},
		{rounds, at(1, 2, 2), []api.Count{count(1, 1)}, api.OK},
		{rounds, at(9, 1, 0), []api.Count{count(1, 10)}, api.OK},
		{rounds, at(2, 2, 2), []api.Count{count(1, 11)}, api.OK},
		{rounds, at(0, 0, 3), []api.Count{count(1, 100)}, api.OK},
		{rounds, at(2, 2, 3), []api.Count{count(1, 111)}, api.OK},
		{over, at(0), nil, api.ErrOver},
		{over, at(1), []api.Count{count(1, greatest-2), count(2, 1)}, api.OK},
		{over, at(2), nil, api.ErrOver},
		{[]api.Update{update(row(1), row(1), at(0), least), update(row(2), row(1), at(0), -1)}, at(0), nil, api.ErrOver},
		{[]api.Update{up(1, 5, greatest), up(1, 5, greatest)}, at(4), nil, api.OK},
		{[]api.Update{up(2, 0, -1), up(1, 0, -2), update(nil, row(), at(0), 1), update(nil, row("a"), at(0), 3)}, at(0), []api.Count{{Row: nil, N: 1}, count(1, -2), count(2, -1), {Row: row("a"), N: 3}}, api.OK},
	} {
		c, why := diff.At(x.l, x.t)
		wantCounts(t, "At of "+show(x.l, showUpdate), c, why, x.want, x.no)
	}
	for want, lists := range wrong() {
		for _, l := range lists {
			for _, x := range append(wrongTimes(), at(0), at(9)) {
				c, why := diff.At(slices.Concat(over, l), x)
				wantCounts(t, "At with "+show(l, showUpdate), c, why, nil, want)
			}
		}
	}
	for _, x := range wrongTimes() {
		for _, l := range [][]api.Update{nil, example(), over} {
			c, why := diff.At(l, x)
			wantCounts(t, "At a time that is not valid", c, why, nil, api.ErrRange)
		}
	}
}

// 5.5
func TestSameThere(t *testing.T) {
	for _, l := range [][]api.Update{example(), mild(50), mild(500), messy(12), messy(20), messy(40), ascending(), right()} {
		even, no := diff.Consolidate(l)
		for _, u := range append(ascending(), messy(30)...) {
			want, over := there(l, u.Time)
			c, why := diff.At(l, u.Time)
			wantCounts(t, "At", c, why, want, over)
			if no == api.OK {
				c, why = diff.At(even, u.Time)
				wantCounts(t, "At of the consolidated ones", c, why, want, over)
			}
		}
	}
}

// 5.2
func TestMerge(t *testing.T) {
	count := func(n int64, l ...any) api.Count { return api.Count{Row: row(l...), N: n} }
	for _, x := range []struct {
		lists [][]api.Count
		want  []api.Count
		no    api.Errno
	}{
		{nil, nil, api.OK},
		{[][]api.Count{nil, {}}, nil, api.OK},
		{[][]api.Count{{count(2), count(-2)}}, nil, api.OK},
		{[][]api.Count{{count(2)}, {count(-2)}}, nil, api.OK},
		{[][]api.Count{{count(0, 1)}}, nil, api.OK},
		{[][]api.Count{{count(1, 2), count(1, 1)}, {count(5, "a"), count(3, 2)}}, []api.Count{count(1, 1), count(4, 2), count(5, "a")}, api.OK},
		{[][]api.Count{{count(-1, 1, 0), count(-1, 1)}, {count(-1)}}, []api.Count{count(-1), count(-1, 1), count(-1, 1, 0)}, api.OK},
		{[][]api.Count{{count(greatest, 1)}, {count(1, 1)}, {count(-1, 1)}}, []api.Count{count(greatest, 1)}, api.OK},
		{[][]api.Count{{count(greatest, 1), count(1, 2)}, {count(least, 2)}}, []api.Count{count(greatest, 1), count(least+1, 2)}, api.OK},
		{[][]api.Count{{count(greatest, 1)}, {count(1, 1)}}, nil, api.ErrOver},
		{[][]api.Count{{count(1, 0), count(least, 1)}, {count(-1, 1)}}, nil, api.ErrOver},
		{[][]api.Count{{{Row: wide(maxCols), N: 1}, {Row: long(maxText), N: 1}}}, []api.Count{{Row: wide(maxCols), N: 1}, {Row: long(maxText), N: 1}}, api.OK},
	} {
		c, why := diff.Merge(x.lists...)
		wantCounts(t, "Merge", c, why, x.want, x.no)
	}
	over := []api.Count{count(greatest, 1), count(1, 1)}
	for _, r := range wrongRows() {
		w := []api.Count{{Row: r, N: 1}}
		for _, lists := range [][][]api.Count{{w}, {over, w}, {w, over}, {nil, append(slices.Clone(over), w...)}, {{{Row: r}}}} {
			c, why := diff.Merge(lists...)
			wantCounts(t, "Merge with "+showRow(r), c, why, nil, api.ErrForm)
		}
	}
	for n := range 40 {
		var a, b []api.Count
		for i, u := range messy(n) {
			if i%3 == 0 {
				a = append(a, api.Count{Row: u.Row, N: u.Diff})
			} else {
				b = append(b, api.Count{Row: u.Row, N: u.Diff})
			}
		}
		want, no := summed(slices.Concat(a, b))
		c, why := diff.Merge(a, b)
		wantCounts(t, "Merge", c, why, want, no)
		c, why = diff.Merge(b, nil, a)
		wantCounts(t, "Merge", c, why, want, no)
	}
}

// own tells of a list that has memory of another one.
type own map[any]bool

// add takes up the memory of a list, up to its capacity, and reports whether it is new.
func add[T any](o own, l []T) bool {
	l = l[:cap(l)]
	fresh := true
	for i := range l {
		fresh = fresh && !o[&l[i]]
		o[&l[i]] = true
	}
	return fresh
}

func (o own) updates(l []api.Update) bool {
	fresh := add(o, l)
	for _, u := range l {
		fresh = add(o, u.Key) && add(o, u.Row) && fresh
	}
	return fresh
}

func (o own) counts(l []api.Count) bool {
	fresh := add(o, l)
	for _, c := range l {
		fresh = add(o, c.Row) && fresh
	}
	return fresh
}

// roomy is updates with spare capacity, marked behind each end; the rows of them all are one and the same where they are equal.
func roomy(l []api.Update) []api.Update {
	rows := map[string][]api.Value{}
	wide := func(r []api.Value) []api.Value {
		s := showRow(r)
		if rows[s] == nil {
			rows[s] = append(slices.Clone(r), row("mark", "mark")...)[:len(r)]
		}
		return rows[s]
	}
	var c []api.Update
	for _, u := range l {
		c = append(c, update(wide(u.Key), wide(u.Row), u.Time, u.Diff))
	}
	return append(c, up(99, 99, 99), up(99, 99, 99))[:len(l)]
}

// whole tells all of updates, also what is behind their ends.
func whole(l []api.Update) string {
	s := ""
	for _, u := range l[:cap(l)] {
		s += showUpdate(u) + showRow(u.Key[:cap(u.Key)]) + showRow(u.Row[:cap(u.Row)])
	}
	return s
}

// 5.3, P2 to P4: arguments are as they were; results share no memory with them, with another result, or among themselves; nothing is left of a call.
func TestNewMemory(t *testing.T) {
	before := runtime.NumGoroutine()
	for _, l := range [][]api.Update{nil, example(), mild(60), messy(9), ascending(), right()} {
		a := roomy(l)
		told, o := whole(a), own{}
		o.updates(a)
		b := slices.Clone(a)
		lists := [][]api.Update{a, nil, b}
		for range 2 {
			one, _ := diff.Consolidate(lists...)
			there, _ := diff.At(a, at(9))
			merged, _ := diff.Merge(there, there)
			if !o.updates(one) || !o.counts(there) || !o.counts(merged) {
				t.Errorf("of %s: a result shares memory", show(l, showUpdate))
			}
		}
		diff.Check(a)
		diff.Even(a)
		for i := range a {
			diff.Compare(a[0], a[i])
		}
		if whole(a) != told || show(b, showUpdate) != show(l, showUpdate) || len(lists) != 3 || lists[1] != nil {
			t.Errorf("of %s: an argument was changed", show(l, showUpdate))
		}
	}
	numbers := []int64{3, 1, 2, -9}
	diff.Sum(numbers...)
	if !slices.Equal(numbers, []int64{3, 1, 2, -9}) {
		t.Errorf("Sum changed its argument: %d", numbers)
	}
	if n := runtime.NumGoroutine(); n > before {
		t.Errorf("%d goroutines are left", n-before)
	}
}

// P1: many updates are no trouble.
func TestMany(t *testing.T) {
	var a, b []api.Update
	for _, x := range noise(1 << 17) {
		u := update(row(int(x%7)), row(int(x%1000)), at(x%5), int64(x%9)-4)
		a = append(a, u)
		u.Diff = -u.Diff
		b = append(b, u)
	}
	slices.Reverse(b)
	l, why := diff.Consolidate(a, b)
	wantUpdates(t, "Consolidate of many", l, why, nil, api.OK)
}
