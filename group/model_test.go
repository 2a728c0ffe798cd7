package group_test

import (
	"fmt"
	"math/big"
	"runtime"
	"slices"
	"testing"

	"freshet/api"
	"freshet/diff"
	"freshet/group"
	"freshet/linear"
	"freshet/mean"
	"freshet/spine"
)

// chance is numbers that look like chance, the same ones each time.
type chance uint64

func (c *chance) below(n int) int {
	*c ^= *c << 13
	*c ^= *c >> 7
	*c ^= *c << 17
	return int(uint64(*c) >> 16 % uint64(n))
}

// pick is one of several.
func pick[T any](c *chance, l ...T) T {
	return l[c.below(len(l))]
}

// ahead reports whether a is at or before b.
func ahead(a, b api.Time) bool {
	return a.Epoch <= b.Epoch && a.Loop[0] <= b.Loop[0] && a.Loop[1] <= b.Loop[1]
}

// bounds is the times of updates as they are written down: with two of them there is their bound.
func bounds(l []api.Update) []api.Time {
	var times []api.Time
	for _, u := range l {
		times = append(times, u.Time)
	}
	for found := true; found; {
		slices.SortFunc(times, early)
		times = slices.Compact(times)
		found = false
		for _, a := range times {
			for _, b := range times {
				both := at(max(a.Epoch, b.Epoch), max(a.Loop[0], b.Loop[0]), max(a.Loop[1], b.Loop[1]))
				if !slices.Contains(times, both) {
					times, found = append(times, both), true
				}
			}
		}
	}
	return times
}

// item is how often a row is there, with numbers of any size.
type item struct {
	row  []api.Value
	time api.Time
	n    *big.Int
}

// items is the sum of items by rows, in the order of rows; of none that come to 0.
func items(l []item) []item {
	var sums []item
	for _, x := range l {
		i := slices.IndexFunc(sums, func(y item) bool { return slices.Equal(x.row, y.row) })
		if i < 0 {
			i = len(sums)
			sums = append(sums, item{row: x.row, n: new(big.Int)})
		}
		sums[i].n.Add(sums[i].n, x.n)
	}
	sums = slices.DeleteFunc(sums, func(x item) bool { return x.n.Sign() == 0 })
	slices.SortFunc(sums, func(a, b item) int { return slices.CompareFunc(a.row, b.row, inOrder) })
	return sums
}

// inOrder is the order of values.
func inOrder(a, b api.Value) int {
	switch {
	case a == b:
		return 0
	case !a.IsText && (b.IsText || a.N < b.N), a.IsText && b.IsText && a.S < b.S:
		return -1
	}
	return 1
}

// until is the sum of items at or before a time.
func until(l []item, t api.Time) []item {
	return items(slices.DeleteFunc(slices.Clone(l), func(x item) bool { return !ahead(x.time, t) }))
}

// result is that of a group as it is written down, or false if a number does not fit.
func result(p api.Plan, key []api.Value, rows []item) ([][]api.Value, bool) {
	sum, fits := new(big.Int), true
	var there [][]api.Value
	for _, x := range rows {
		n := x.n
		if p.Kind == api.PlanReduce && p.Agg == api.AggSum {
			n = new(big.Int).Mul(n, big.NewInt(x.row[p.N].N))
		}
		fits = fits && x.n.IsInt64() && n.IsInt64()
		sum.Add(sum, n)
		if x.n.Sign() > 0 {
			there = append(there, x.row)
		}
	}
	if len(rows) == 0 {
		return nil, true
	}
	if p.Kind == api.PlanDistinct {
		return there, fits
	}
	single := func(v api.Value) ([][]api.Value, bool) {
		return [][]api.Value{append(slices.Clone(key), v)}, fits && len(key) < maxCols
	}
	switch p.Agg {
	case api.AggTop:
		return there[max(0, len(there)-p.N):], fits
	case api.AggCount, api.AggSum:
		fits = fits && sum.IsInt64()
		return single(api.Value{N: sum.Int64()})
	}
	slices.SortFunc(there, func(a, b []api.Value) int { return inOrder(a[p.N], b[p.N]) })
	if len(there) == 0 {
		return nil, fits && len(key) < maxCols
	}
	if p.Agg == api.AggMin {
		return single(there[0][p.N])
	}
	return single(there[len(there)-1][p.N])
}

// output is that of a group as it is written down.
func output(p api.Plan, key []api.Value, l []api.Update) outcome {
	var given, made []item
	for _, u := range l {
		given = append(given, item{u.Row, u.Time, big.NewInt(u.Diff)})
	}
	var o outcome
	for _, t := range bounds(l) {
		rows, fits := result(p, key, until(given, t))
		if !fits {
			if o.why == api.OK {
				o.at, o.why = t, api.ErrOver
			}
			continue
		}
		var missing []item
		for _, r := range rows {
			missing = append(missing, item{r, t, big.NewInt(1)})
		}
		for _, x := range until(made, t) {
			missing = append(missing, item{x.row, t, new(big.Int).Neg(x.n)})
		}
		for _, x := range items(missing) {
			made = append(made, item{x.row, t, x.n})
			o.l = append(o.l, bare(t, x.n.Int64(), x.row))
		}
	}
	slices.SortFunc(o.l, diff.Compare)
	return o
}

// stepped is what a step produces, as it is written down, and its spine.
func stepped(p api.Plan, s api.Spine, l []api.Update) (api.Spine, outcome) {
	var o outcome
	fails := make([]api.Time, 0, len(l))
	keys := map[string][]api.Value{}
	for _, u := range l {
		fails = append(fails, u.Time)
		keys[showRow(u.Key)] = u.Key
	}
	now, why := spine.Insert(s, l)
	var made []api.Update
	for _, k := range keys {
		a, no := spine.Group(s, k)
		b, over := spine.Group(now, k)
		if why != api.OK || no != api.OK || over != api.OK {
			return s, failed(slices.MinFunc(fails, early))
		}
		x, y := output(p, k, a), output(p, k, b)
		for _, u := range x.l {
			u.Diff = -u.Diff
			made = append(made, u)
		}
		made = append(made, y.l...)
		if y.why != api.OK && (o.why == api.OK || early(y.at, o.at) < 0) {
			o.at, o.why = y.at, y.why
		}
	}
	o.l, _ = diff.Consolidate(made)
	return now, o
}

// anyPlan is a plan for rows of which the first value is a number, and the second one, if there is any, too.
func anyPlan(c *chance) api.Plan {
	return pick(c, distinct(), reduce(api.AggCount, 0), reduce(api.AggSum, 0), reduce(api.AggMin, 0), reduce(api.AggMax, 0), reduce(api.AggTop, 1), reduce(api.AggTop, 2))
}

// anyUpdates is a few updates of few keys, rows and times, from an epoch on, so that some of them meet.
func anyUpdates(c *chance, from int, diffs ...int64) []api.Update {
	var l []api.Update
	for range c.below(7) {
		t := at(uint64(from+c.below(3)), uint64(c.below(3)), uint64(c.below(2)))
		u := bare(t, pick(c, diffs...), pick(c, row(1), row(1, 2), row(2, "a"), row(2, 1), row(-3), row(1<<40)))
		u.Key = pick(c, row(1), row(1, 2), row("k"))
		l = append(l, u)
	}
	return l
}

var large = []int64{1, 1, 2, -1, 0, 1 << 31, 1 << 32, -1 << 31, 1 << 62, greatest, least}

// 13.1, 13.2
func TestTellModel(t *testing.T) {
	c := chance(3)
	for range 10000 {
		p, l := anyPlan(&c), anyUpdates(&c, 0, large...)
		key := pick(&c, nil, row(7), row("a", "b"), wide(maxCols-1), wide(maxCols))
		name := fmt.Sprintf("kind %d, agg %d of %d by %s: %s", p.Kind, p.Agg, p.N, showRow(key), show(l))
		want(t, name, of(group.Tell(p, key, l)), output(p, key, l))
		if times, why := group.Times(l); !slices.Equal(times, bounds(l)) || why != api.OK {
			t.Errorf("times of %s: %d, error %d", show(l), times, why)
		}
		if t.Failed() {
			return
		}
	}
}

// 13.3: many steps one behind the other, with numbers of any size, while the spine works and is compacted now and then.
func TestStepModel(t *testing.T) {
	c := chance(4)
	for range 150 {
		var s api.Spine
		p := anyPlan(&c)
		for i := range 20 {
			l := anyUpdates(&c, i/8, large...)
			now, o := stepped(p, s, l)
			name := fmt.Sprintf("kind %d, agg %d of %d: %s of %s", p.Kind, p.Agg, p.N, show(l), plain(s))
			got, made, when, why := group.Step(p, s, l)
			want(t, name, of(made, when, why), o)
			wantSpine(t, name, got, now)
			if t.Failed() {
				return
			}
			s = got
			if c.below(4) == 0 {
				s = worked(s, c.below(9))
			}
			if c.below(8) == 0 {
				s, _ = spine.Compact(s, []api.Time{at(uint64(i / 8))})
			}
		}
	}
}

func worked(s api.Spine, fuel int) api.Spine {
	s, _, _ = spine.Work(s, fuel)
	return s
}

// 13.5: at each time there is what the plan comes to for what there is.
func TestAsPlan(t *testing.T) {
	c := chance(5)
	source := api.Plan{Kind: api.PlanSource}
	schemas := [][]api.Type{{api.TypeInt, api.TypeText, api.TypeInt}}
	for range 500 {
		p := anyPlan(&c)
		whole := p
		whole.Kids = []api.Plan{source}
		cols := []int{0, 1, 2}
		if p.Kind == api.PlanReduce {
			cols = pick(&c, nil, []int{1}, []int{1, 0})
			whole.Cols = cols
		}
		var l []api.Update
		for range c.below(9) {
			t := at(uint64(c.below(3)), uint64(c.below(3)), uint64(c.below(2)))
			l = append(l, bare(t, pick(&c, int64(1), 2, -1, -2), row(c.below(3), pick(&c, "a", "b"), c.below(2))))
		}
		arranged, _ := linear.Arrange(cols, l)
		_, made, _, why := group.Step(p, api.Spine{}, arranged)
		if why != api.OK {
			t.Fatalf("%s: error %d", show(l), why)
		}
		alone, _, _ := group.Tell(p, nil, l)
		if len(cols) == 0 || p.Kind == api.PlanDistinct {
			want(t, "as one group: "+show(l), fine(alone...), fine(made...))
		}
		for i := range 4 * 4 * 3 {
			when := at(uint64(i%4), uint64(i/4%4), uint64(i/16))
			given, _ := diff.At(l, when)
			have, _ := diff.At(made, when)
			come, no := mean.Of(whole, [][]api.Count{given}, schemas)
			if fmt.Sprint(have) != fmt.Sprint(come) || no != api.OK {
				t.Fatalf("agg %d of %d by %d at %d: %v; want %v, error %d; of %s", p.Agg, p.N, cols, when, have, come, no, show(l))
			}
		}
	}
}

// 13.6: whatever comes in whatever order, also with numbers that do not fit, all that was produced is what comes of it at once.
func TestAnyOrder(t *testing.T) {
	c := chance(6)
	for i := range 300 {
		var s api.Spine
		p := anyPlan(&c)
		var all []api.Update
		came := map[string][]api.Update{}
		for range 8 {
			l := anyUpdates(&c, 0, []int64{1, 2, -1, 0, large[i%len(large)]}...)
			now, made, _, _ := group.Step(p, s, l)
			all = append(all, made...)
			if plain(now) != plain(s) {
				for _, u := range l {
					came[showRow(u.Key)] = append(came[showRow(u.Key)], u)
				}
			}
			s = worked(now, c.below(5))
		}
		var once []api.Update
		for _, l := range came {
			made, _, why := group.Tell(p, l[0].Key, l)
			if why != api.OK && why != api.ErrOver {
				t.Fatalf("%s: error %d", show(l), why)
			}
			once = append(once, made...)
		}
		a, why := diff.Consolidate(all)
		b, no := diff.Consolidate(once)
		want(t, fmt.Sprintf("agg %d of %d", p.Agg, p.N), of(a, at(0), why), of(b, at(0), no))
		if t.Failed() {
			return
		}
	}
}

// 13.7: what comes is not ahead of what the spine is compacted to.
func TestCompacted(t *testing.T) {
	c := chance(7)
	for range 150 {
		var s, short api.Spine
		p := anyPlan(&c)
		for i := range 20 {
			l := anyUpdates(&c, i/4, 1, 2, -1, 3, 0)
			for j := range l {
				from := at(0)
				if len(short.Since) > 0 {
					from = pick(&c, short.Since...)
				}
				l[j].Time = at(max(l[j].Time.Epoch, from.Epoch), max(l[j].Time.Loop[0], from.Loop[0]), max(l[j].Time.Loop[1], from.Loop[1]))
			}
			a, made, when, why := group.Step(p, s, l)
			b, again, _, no := group.Step(p, short, l)
			if why != api.OK || no != api.OK || when != at(0) {
				t.Fatalf("%s: errors %d and %d, time %d", show(l), why, no, when)
			}
			want(t, fmt.Sprintf("agg %d of %d: %s", p.Agg, p.N, show(l)), fine(again...), fine(made...))
			if t.Failed() {
				return
			}
			e := uint64((i + 1) / 4)
			since := pick(&c, []api.Time{at(e, 2), at(e+1, 0)}, []api.Time{at(e, 0, 1), at(e, 1)}, []api.Time{at(e)})
			if compacted, why := spine.Compact(b, since); why == api.OK {
				b = compacted
			}
			s, short = worked(a, c.below(9)), worked(b, c.below(9))
		}
	}
}

// roomy is updates whose lists have marks behind their ends; equal rows are one and the same.
func roomy(l []api.Update) []api.Update {
	rows := map[string][]api.Value{}
	wide := func(r []api.Value) []api.Value {
		s := showRow(r)
		if rows[s] == nil {
			rows[s] = append(slices.Clone(r), row("mark", "mark")...)[:len(r)]
		}
		return rows[s]
	}
	var c []api.Update
	for _, u := range l {
		c = append(c, api.Update{Key: wide(u.Key), Row: wide(u.Row), Time: u.Time, Diff: u.Diff})
	}
	return append(c, up(at(99), 99, 99), up(at(99), 99, 99))[:len(l)]
}

func roomyTimes(l []api.Time) []api.Time {
	return append(slices.Clone(l), at(99), at(99))[:len(l)]
}

func roomySpine(s api.Spine) api.Spine {
	c := api.Spine{Since: roomyTimes(s.Since)}
	for _, l := range s.Levels {
		m := l.Merger
		l.Batch = api.Batch{Since: roomyTimes(l.Batch.Since), Updates: roomy(l.Batch.Updates)}
		l.Merger = api.Merger{A: roomy(m.A), B: roomy(m.B), I: m.I, J: m.J, Since: roomyTimes(m.Since), Out: roomy(m.Out)}
		c.Levels = append(c.Levels, l)
	}
	c.Levels = append(c.Levels, api.Level{Class: 99})[:len(c.Levels)]
	return c
}

// memory is the places of all lists that were seen.
type memory map[any]bool

// add takes up a list up to its capacity, and reports whether all of it is new.
func add[T any](m memory, l []T) bool {
	fresh := true
	for i := range l[:cap(l)] {
		p := &l[:cap(l)][i]
		fresh = fresh && !m[p]
		m[p] = true
	}
	return fresh
}

func (m memory) updates(lists ...[]api.Update) bool {
	fresh := true
	for _, l := range lists {
		fresh = add(m, l) && fresh
		for _, u := range l {
			fresh = add(m, u.Key) && add(m, u.Row) && fresh
		}
	}
	return fresh
}

func (m memory) spine(s api.Spine) bool {
	fresh := add(m, s.Since) && add(m, s.Levels)
	for _, l := range s.Levels {
		fresh = add(m, l.Batch.Since) && add(m, l.Merger.Since) && m.updates(l.Batch.Updates, l.Merger.A, l.Merger.B, l.Merger.Out) && fresh
	}
	return fresh
}

// whole tells all of updates, also what is behind their ends.
func whole(l []api.Update) string {
	s := ""
	for _, u := range l[:cap(l)] {
		s += show(ups(u)) + showRow(u.Key[:cap(u.Key)]) + showRow(u.Row[:cap(u.Row)])
	}
	return s
}

func wholeSpine(s api.Spine) string {
	t := fmt.Sprint(s.Since[:cap(s.Since)])
	for _, l := range s.Levels[:cap(s.Levels)] {
		m := l.Merger
		t += fmt.Sprint(l.Class, l.Busy, m.I, m.J, l.Batch.Since[:cap(l.Batch.Since)], m.Since[:cap(m.Since)])
		t += whole(l.Batch.Updates) + whole(m.A) + whole(m.B) + whole(m.Out)
	}
	return t
}

// 13.4, P3, P4: updates, keys, plans and spines are as they were, also behind their ends, and what is answered is new; nothing is left of a call.
func TestNewMemory(t *testing.T) {
	before := runtime.NumGoroutine()
	c := chance(8)
	var grown api.Spine
	for range 60 {
		grown, _, _, _ = group.Step(distinct(), grown, anyUpdates(&c, 0, 1, 2, -1))
		grown = worked(grown, 1)
	}
	spines := []api.Spine{{}, grown, compact(t, grown, at(1)), overs(t)["a group before"].s, overs(t)["a merger that has to be completed"].s, wrongSpines()[4]}
	lists := [][]api.Update{nil, anyUpdates(&c, 1, 1), anyUpdates(&c, 1, greatest), anyUpdates(&c, 1, 5), ups(up(at(4), 1, 2, 1)), ups(up(at(4), 1, 1, "a")), wrong()[api.ErrForm][1]}
	plans := []api.Plan{distinct(), reduce(api.AggCount, 0), reduce(api.AggSum, 0), reduce(api.AggMin, 0), reduce(api.AggMax, 0), reduce(api.AggTop, 2), reduce(api.AggTop, 0)}
	for _, s := range spines {
		for _, l := range lists {
			for _, p := range plans {
				s, l := roomySpine(s), roomy(l)
				key := append(row("key", 5), row("mark")...)[:2]
				told := wholeSpine(s) + whole(l) + showRow(key[:3])
				m := memory{}
				m.spine(s)
				m.updates(l)
				add(m, key)
				a, made, _, why := group.Step(p, s, l)
				b, again, _, _ := group.Step(p, s, l)
				alone, _, _ := group.Tell(p, key, l)
				keyed, _, _ := group.Tell(p, key, l)
				times, _ := group.Times(l)
				more, _ := group.Times(l)
				if !m.spine(a) || !m.spine(b) || !m.updates(made, again, alone, keyed) || !add(m, times) || !add(m, more) {
					t.Errorf("kind %d, agg %d of %s, updates %s, error %d: memory is shared", p.Kind, p.Agg, plain(s), show(l), why)
				}
				if wholeSpine(s)+whole(l)+showRow(key[:3]) != told {
					t.Errorf("%s, %s or %s was changed", plain(s), show(l), showRow(key))
				}
			}
		}
	}
	if n := runtime.NumGoroutine(); n > before {
		t.Errorf("%d goroutines are left", n-before)
	}
}

// P1: many groups, many rows of one, and many times of one, in no long time.
func TestMany(t *testing.T) {
	var keys, rows, epochs, rounds []api.Update
	for i := range 1 << 13 {
		keys = append(keys, up(at(uint64(i%3)), 1, i*7919%(1<<13), i))
		rows = append(rows, up(at(uint64(i%3)), 1, 1, i*7919%(1<<13)))
	}
	for i := range 1 << 10 {
		epochs = append(epochs, up(at(uint64(i*7919%(1<<10))), 1, 1, i))
		rounds = append(rounds, up(at(uint64(i/16), uint64(i%16)), 1, 1, i))
	}
	for _, p := range []api.Plan{distinct(), reduce(api.AggCount, 0), reduce(api.AggSum, 0), reduce(api.AggMin, 0), reduce(api.AggTop, 8)} {
		for _, l := range [][]api.Update{keys, rows, epochs, rounds} {
			s, made, _, why := group.Step(p, api.Spine{}, l)
			if len(made) == 0 || why != api.OK {
				t.Errorf("agg %d: %d updates, error %d", p.Agg, len(made), why)
			}
			if _, _, _, why := group.Step(p, s, l[:5]); why != api.OK {
				t.Errorf("agg %d: error %d", p.Agg, why)
			}
		}
	}
	var apart []api.Update
	for i := range 1 << 7 {
		apart = append(apart, bare(at(uint64(i), 1<<7-uint64(i)), 1, nil))
	}
	if l, why := group.Times(apart); len(l) != len(apart)*(len(apart)+1)/2 || why != api.OK {
		t.Errorf("%d times, error %d", len(l), why)
	}
}
