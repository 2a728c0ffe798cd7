package join_test

import (
	"fmt"
	"math/big"
	"runtime"
	"slices"
	"testing"

	"freshet/api"
	"freshet/diff"
	"freshet/join"
	"freshet/moment"
	"freshet/spine"
)

// chance is numbers that look like chance, the same ones each time.
type chance uint64

func (c *chance) below(n int) int {
	*c ^= *c << 13
	*c ^= *c >> 7
	*c ^= *c << 17
	return int(uint64(*c) >> 16 % uint64(n))
}

// pick is one of several.
func pick[T any](c *chance, l ...T) T {
	return l[c.below(len(l))]
}

// paired is what all pairs produce, as it is written down, with numbers of any size.
func paired(a, b []api.Update) outcome {
	sums, by := map[string]*big.Int{}, map[string]api.Update{}
	var fails []api.Time
	for _, x := range a {
		for _, y := range b {
			if !slices.Equal(x.Key, y.Key) {
				continue
			}
			u := api.Update{Row: slices.Concat(x.Row, y.Row), Time: at(max(x.Time.Epoch, y.Time.Epoch), max(x.Time.Loop[0], y.Time.Loop[0]), max(x.Time.Loop[1], y.Time.Loop[1]))}
			n := new(big.Int).Mul(big.NewInt(x.Diff), big.NewInt(y.Diff))
			if len(u.Row) > maxCols || !n.IsInt64() {
				fails = append(fails, u.Time)
				continue
			}
			k := fmt.Sprintf("%#v %v", u.Row, u.Time)
			if sums[k] == nil {
				sums[k], by[k] = new(big.Int), u
			}
			sums[k].Add(sums[k], n)
		}
	}
	var o outcome
	for k, n := range sums {
		u := by[k]
		u.Diff = n.Int64()
		if !n.IsInt64() {
			fails = append(fails, u.Time)
		} else if u.Diff != 0 {
			o.l = append(o.l, u)
		}
	}
	slices.SortFunc(o.l, diff.Compare)
	if len(fails) > 0 {
		o.at, o.why = slices.MinFunc(fails, moment.Compare), api.ErrOver
	}
	return o
}

// stepped is what a step produces, as it is written down, and its spines.
func stepped(left, right api.Spine, port int, l []api.Update) (api.Spine, api.Spine, outcome) {
	sides := []api.Spine{left, right}
	var fails []api.Time
	for _, u := range l {
		fails = append(fails, u.Time)
	}
	own, why := spine.Insert(sides[port], l)
	if why != api.OK {
		return left, right, failed(slices.MinFunc(fails, moment.Compare))
	}
	groups := map[string][]api.Update{}
	for _, u := range l {
		g, why := spine.Group(sides[1-port], u.Key)
		if why != api.OK {
			return left, right, failed(slices.MinFunc(fails, moment.Compare))
		}
		groups[showRow(u.Key)] = g
	}
	var others []api.Update
	for _, g := range groups {
		others = append(others, g...)
	}
	sides[port] = own
	if port == 0 {
		return sides[0], sides[1], paired(l, others)
	}
	return sides[0], sides[1], paired(others, l)
}

// anyUpdates is a few updates of few keys, rows and times, from an epoch on, so that some of them meet.
func anyUpdates(c *chance, from int, diffs ...int64) []api.Update {
	var l []api.Update
	for range c.below(7) {
		t := at(uint64(from+c.below(3)), uint64(c.below(3)), uint64(c.below(2)))
		u := bare(t, pick(c, diffs...), pick(c, row(), row(1), row(1, 2), row("a"), row(2, 1)))
		u.Key = pick(c, row(1), row(1), row(1, 2), row("k"), row())
		l = append(l, u)
	}
	return l
}

var large = []int64{1, 1, 2, -1, 0, 1 << 31, 1 << 32, -1 << 31, 1 << 62, greatest, least}

// 12.1
func TestPairsModel(t *testing.T) {
	c := chance(3)
	for range 20000 {
		a, b := anyUpdates(&c, 0, large...), anyUpdates(&c, 0, large...)
		if c.below(3) == 0 && len(a) > 0 {
			a[0].Row = wide(maxCols - c.below(3))
		}
		want(t, show(a)+" and "+show(b), of(join.Pairs(a, b)), paired(a, b))
		if t.Failed() {
			return
		}
	}
}

// 12.2: many steps one behind the other, with numbers of any size, while the spines work and are compacted now and then.
func TestStepModel(t *testing.T) {
	c := chance(4)
	for range 300 {
		var sides [2]api.Spine
		for i := range 30 {
			port := c.below(2)
			l := anyUpdates(&c, i/8, large...)
			left, right, o := stepped(sides[0], sides[1], port, l)
			name := fmt.Sprintf("%s at port %d of %s and %s", show(l), port, plain(sides[0]), plain(sides[1]))
			a, b, made, when, why := join.Step(sides[0], sides[1], port, l)
			want(t, name, of(made, when, why), o)
			wantSpines(t, name, a, b, left, right)
			if t.Failed() {
				return
			}
			sides = [2]api.Spine{a, b}
			if c.below(4) == 0 {
				sides[port] = worked(sides[port], c.below(9))
			}
			if c.below(8) == 0 {
				sides[port], _ = spine.Compact(sides[port], []api.Time{at(uint64(i / 8))})
			}
		}
	}
}

func worked(s api.Spine, fuel int) api.Spine {
	s, _, _ = spine.Work(s, fuel)
	return s
}

// 12.4, 12.5: whatever arrives, in whatever order, all that was produced is what all pairs produce; and compacted spines, whose times are all at or before those of what arrives, do not change what is produced.
func TestAnyOrder(t *testing.T) {
	c := chance(5)
	for range 300 {
		var sides, compacted [2]api.Spine
		var came [2][]api.Update
		var all []api.Update
		for i := range 20 {
			port := c.below(2)
			l := anyUpdates(&c, i/4, 1, 2, -1, 3, 0)
			came[port] = append(came[port], l...)
			a, b, made, when, why := join.Step(sides[0], sides[1], port, l)
			sides = [2]api.Spine{a, b}
			all = append(all, made...)
			d, e, again, _, no := join.Step(compacted[0], compacted[1], port, l)
			compacted = [2]api.Spine{d, e}
			name := fmt.Sprintf("%s at port %d", show(l), port)
			if why != api.OK || no != api.OK || when != at(0) {
				t.Fatalf("%s: errors %d and %d, time %d", name, why, no, when)
			}
			// What is to come is not ahead of the epoch (i+1)/4; what it makes of times ahead of it is advanced.
			want(t, name+" of compacted spines", fine(again...), fine(made...))
			side := c.below(2)
			compacted[side] = worked(compacted[side], c.below(20))
			compacted[side] = compact(t, compacted[side], at(uint64((i+1)/4)))
			sides[side] = worked(sides[side], c.below(20))
		}
		once, _, _ := join.Pairs(came[0], came[1])
		l, why := diff.Consolidate(all)
		want(t, "all of it", of(l, at(0), why), fine(once...))
		if t.Failed() {
			return
		}
	}
}

// roomy is updates whose lists have marks behind their ends; equal rows are one and the same.
func roomy(l []api.Update) []api.Update {
	rows := map[string][]api.Value{}
	wide := func(r []api.Value) []api.Value {
		s := showRow(r)
		if rows[s] == nil {
			rows[s] = append(slices.Clone(r), row("mark", "mark")...)[:len(r)]
		}
		return rows[s]
	}
	var c []api.Update
	for _, u := range l {
		c = append(c, api.Update{Key: wide(u.Key), Row: wide(u.Row), Time: u.Time, Diff: u.Diff})
	}
	return append(c, up(at(99), 99, 99), up(at(99), 99, 99))[:len(l)]
}

func roomyTimes(l []api.Time) []api.Time {
	return append(slices.Clone(l), at(99), at(99))[:len(l)]
}

func roomySpine(s api.Spine) api.Spine {
	c := api.Spine{Since: roomyTimes(s.Since)}
	for _, l := range s.Levels {
		m := l.Merger
		l.Batch = api.Batch{Since: roomyTimes(l.Batch.Since), Updates: roomy(l.Batch.Updates)}
		l.Merger = api.Merger{A: roomy(m.A), B: roomy(m.B), I: m.I, J: m.J, Since: roomyTimes(m.Since), Out: roomy(m.Out)}
		c.Levels = append(c.Levels, l)
	}
	c.Levels = append(c.Levels, api.Level{Class: 99})[:len(c.Levels)]
	return c
}

// memory is the places of all lists that were seen.
type memory map[any]bool

// add takes up a list up to its capacity, and reports whether all of it is new.
func add[T any](m memory, l []T) bool {
	fresh := true
	for i := range l[:cap(l)] {
		p := &l[:cap(l)][i]
		fresh = fresh && !m[p]
		m[p] = true
	}
	return fresh
}

func (m memory) updates(lists ...[]api.Update) bool {
	fresh := true
	for _, l := range lists {
		fresh = add(m, l) && fresh
		for _, u := range l {
			fresh = add(m, u.Key) && add(m, u.Row) && fresh
		}
	}
	return fresh
}

func (m memory) spine(s api.Spine) bool {
	fresh := add(m, s.Since) && add(m, s.Levels)
	for _, l := range s.Levels {
		fresh = add(m, l.Batch.Since) && add(m, l.Merger.Since) && m.updates(l.Batch.Updates, l.Merger.A, l.Merger.B, l.Merger.Out) && fresh
	}
	return fresh
}

// whole tells all of updates, also what is behind their ends.
func whole(l []api.Update) string {
	s := ""
	for _, u := range l[:cap(l)] {
		s += show(ups(u)) + showRow(u.Key[:cap(u.Key)]) + showRow(u.Row[:cap(u.Row)])
	}
	return s
}

func wholeSpine(s api.Spine) string {
	t := fmt.Sprint(s.Since[:cap(s.Since)])
	for _, l := range s.Levels[:cap(s.Levels)] {
		m := l.Merger
		t += fmt.Sprint(l.Class, l.Busy, m.I, m.J, l.Batch.Since[:cap(l.Batch.Since)], m.Since[:cap(m.Since)])
		t += whole(l.Batch.Updates) + whole(m.A) + whole(m.B) + whole(m.Out)
	}
	return t
}

// 12.3, P3, P4: updates and spines are as they were, also behind their ends, and what is answered is new; nothing is left of a call.
func TestNewMemory(t *testing.T) {
	before := runtime.NumGoroutine()
	c := chance(6)
	var grown [2]api.Spine
	for i := range 60 {
		l := anyUpdates(&c, 0, 1, 2, -1)
		a, b, _, _, _ := join.Step(grown[0], grown[1], i%2, l)
		grown = [2]api.Spine{worked(a, 1), worked(b, 1)}
	}
	grown[1] = compact(t, grown[1], at(1))
	spines := []api.Spine{{}, grown[0], grown[1], overs(t)["both"][0], overs(t)["both"][1], wrongSpines()[4]}
	lists := [][]api.Update{nil, anyUpdates(&c, 1, 1), anyUpdates(&c, 1, greatest), anyUpdates(&c, 1, 5), ups(up(at(4), 1, 2, 1)), wrong()[api.ErrForm][1]}
	for _, left := range spines {
		for _, right := range spines {
			for _, l := range lists {
				left, right, l := roomySpine(left), roomySpine(right), roomy(l)
				told := wholeSpine(left) + wholeSpine(right) + whole(l)
				m := memory{}
				m.spine(left)
				m.spine(right)
				m.updates(l)
				for port := range 3 {
					a, b, made, _, why := join.Step(left, right, port, l)
					d, e, again, _, _ := join.Step(left, left, port, l)
					pairs, _, _ := join.Pairs(l, l)
					if !m.spine(a) || !m.spine(b) || !m.spine(d) || !m.spine(e) || !m.updates(made, again, pairs) {
						t.Errorf("port %d of %s and %s, updates %s, error %d: memory is shared", port, plain(left), plain(right), show(l), why)
					}
				}
				if wholeSpine(left)+wholeSpine(right)+whole(l) != told {
					t.Errorf("%s, %s or %s was changed", plain(left), plain(right), show(l))
				}
			}
		}
	}
	if n := runtime.NumGoroutine(); n > before {
		t.Errorf("%d goroutines are left", n-before)
	}
}

// P1: many updates, of many keys, of which each matches one, and of one key in thousands, in no long time.
func TestMany(t *testing.T) {
	var a, b, same []api.Update
	for i := range 1 << 15 {
		a = append(a, up(at(uint64(i%3)), 1, i*7919%(1<<15), i))
		b = append(b, up(at(uint64(i%2)), 1, i, i))
	}
	for i := range 1 << 8 {
		same = append(same, up(at(0), greatest, 1, i, 1, 2, 3, 4))
	}
	if l, _, why := join.Pairs(a, b); len(l) != len(a) || why != api.OK {
		t.Errorf("%d updates, error %d", len(l), why)
	}
	if l, _, why := join.Pairs(same, same); len(l) != 0 || why != api.ErrOver {
		t.Errorf("%d updates, error %d", len(l), why)
	}
	few := a[:1<<9]
	left, right, _, _, _ := join.Step(api.Spine{}, api.Spine{}, 1, b[:1<<12])
	if _, _, l, _, why := join.Step(left, right, 0, few); why != api.OK || len(l) == 0 {
		t.Errorf("%d updates, error %d", len(l), why)
	}
}
