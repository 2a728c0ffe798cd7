package group_test

import (
	"fmt"
	"math"
	"slices"
	"strings"
	"testing"

	"freshet/api"
	"freshet/group"
	"freshet/spine"
)

// The limits are written out, as they are themselves part of what is tested.
const (
	maxCols   = 8
	maxText   = 64
	maxNumber = 1 << 62
)

const (
	greatest = math.MaxInt64
	least    = math.MinInt64
)

// row has a number for each integer, and a text for each string.
func row(l ...any) []api.Value {
	var r []api.Value
	for _, x := range l {
		switch x := x.(type) {
		case int:
			r = append(r, api.Value{N: int64(x)})
		case string:
			r = append(r, api.Value{IsText: true, S: x})
		}
	}
	return r
}

// wide is a row of n values.
func wide(n int) []api.Value { return make([]api.Value, n) }

func at(epoch uint64, rounds ...uint64) api.Time {
	t := api.Time{Epoch: epoch}
	copy(t.Loop[:], rounds)
	return t
}

// up is an update whose key is one number.
func up(t api.Time, n int64, key int, l ...any) api.Update {
	return api.Update{Key: row(key), Row: row(l...), Time: t, Diff: n}
}

// bare is an update without a key.
func bare(t api.Time, n int64, r []api.Value) api.Update {
	return api.Update{Row: r, Time: t, Diff: n}
}

func ups(l ...api.Update) []api.Update { return l }

// outcome is what a call answers.
type outcome struct {
	l   []api.Update
	at  api.Time
	why api.Errno
}

func of(l []api.Update, t api.Time, why api.Errno) outcome { return outcome{l, t, why} }

func fine(l ...api.Update) outcome { return outcome{l: l} }

// failed is the outcome of a failure.
func failed(t api.Time, l ...api.Update) outcome { return outcome{l, t, api.ErrOver} }

func no(why api.Errno) outcome { return outcome{why: why} }

func showRow(r []api.Value) string {
	s := ""
	for _, v := range r {
		s += fmt.Sprintf(" %d", v.N)
		if v.IsText || v.S != "" {
			s += fmt.Sprintf("/%t/%.9q", v.IsText, v.S)
		}
	}
	return s
}

func show(l []api.Update) string {
	var s []string
	for _, u := range l[:min(len(l), 20)] {
		s = append(s, fmt.Sprintf("(%s;%s) %d at %d", showRow(u.Key), showRow(u.Row), u.Diff, u.Time))
	}
	return fmt.Sprintf("%d %s", len(l), s)
}

func (o outcome) String() string {
	return fmt.Sprintf("%s, time %d, error %d", show(o.l), o.at, o.why)
}

func same(a, b outcome) bool {
	return a.at == b.at && a.why == b.why && slices.EqualFunc(a.l, b.l, func(x, y api.Update) bool {
		return slices.Equal(x.Key, y.Key) && slices.Equal(x.Row, y.Row) && x.Time == y.Time && x.Diff == y.Diff
	})
}

func want(t *testing.T, name string, got, want outcome) {
	t.Helper()
	if !same(got, want) {
		t.Errorf("%s: %s; want %s", name, got, want)
	}
}

// wrong is lists of updates that are not valid, with the error of each.
func wrong() map[api.Errno][][]api.Update {
	u, late := up(at(1), 1, 1, 1), up(at(maxNumber+1), 1, 1, 1)
	long := bare(at(0), 1, wide(maxCols+1))
	return map[api.Errno][][]api.Update{
		api.ErrForm: {
			ups(long), ups(u, long), ups(long, late), {{Key: wide(maxCols + 1), Time: late.Time}},
			ups(up(at(0), 0, 1, strings.Repeat("x", maxText+1))), {{Row: []api.Value{{N: 1, S: "x"}}}}, {{Key: []api.Value{{IsText: true, N: 1}}}},
		},
		api.ErrRange: {ups(late), ups(u, late), ups(late, long), ups(up(at(0, maxNumber+1), 0, 1)), ups(up(at(0, 0, math.MaxUint64), 1, 1, "a"))},
	}
}

// insert is a spine with lists of updates, inserted one behind the other.
func insert(t *testing.T, s api.Spine, lists ...[]api.Update) api.Spine {
	t.Helper()
	for _, l := range lists {
		c, why := spine.Insert(s, l)
		if why != api.OK {
			t.Fatalf("inserting %s: error %d", show(l), why)
		}
		s = c
	}
	return s
}

func compact(t *testing.T, s api.Spine, since ...api.Time) api.Spine {
	t.Helper()
	c, why := spine.Compact(s, since)
	if why != api.OK {
		t.Fatalf("compacting to %d: error %d", since, why)
	}
	return c
}

func reduce(agg api.AggKind, n int) api.Plan {
	return api.Plan{Kind: api.PlanReduce, Agg: agg, N: n}
}

func distinct() api.Plan { return api.Plan{Kind: api.PlanDistinct} }

// The document's examples.
func TestExamples(t *testing.T) {
	count, sum := reduce(api.AggCount, 0), reduce(api.AggSum, 0)
	times, why := group.Times(ups(up(at(2, 0), 1, 1), up(at(0, 1), 1, 1), up(at(1, 2), 1, 1)))
	if l := []api.Time{at(0, 1), at(1, 2), at(2, 0), at(2, 1), at(2, 2)}; !slices.Equal(times, l) || why != api.OK {
		t.Errorf("times %d, error %d", times, why)
	}
	want(t, "two times", of(group.Tell(count, nil, ups(up(at(1, 0), 1, 1), up(at(0, 1), 1, 1)))),
		fine(bare(at(0, 1), 1, row(1)), bare(at(1, 0), 1, row(1)), bare(at(1, 1), -2, row(1)), bare(at(1, 1), 1, row(2))))
	want(t, "no column 1", of(group.Tell(reduce(api.AggMin, 1), nil, ups(up(at(1), 1, 1, 1)))), no(api.ErrForm))
	want(t, "one, and another one", of(group.Tell(count, nil, ups(up(at(1), 1, 1, 1), up(at(3), 1, 1, 2)))),
		fine(bare(at(1), 1, row(1)), bare(at(3), -1, row(1)), bare(at(3), 1, row(2))))

	s, l, when, why := group.Step(count, api.Spine{}, ups(up(at(1), 1, 1, 1)))
	want(t, "a row comes", of(l, when, why), fine(bare(at(1), 1, row(1, 1))))
	_, l, when, why = group.Step(count, s, ups(up(at(4), -1, 1, 1)))
	want(t, "and goes", of(l, when, why), fine(bare(at(4), -1, row(1, 1))))

	s, l, when, why = group.Step(sum, api.Spine{}, ups(up(at(1), 1, 1, 1<<62)))
	want(t, "a great number", of(l, when, why), fine(bare(at(1), 1, row(1, 1<<62))))
	_, l, when, why = group.Step(sum, s, ups(up(at(3), 1, 1, 1<<62)))
	want(t, "twice a great number", of(l, when, why), failed(at(3)))
}

// timed is updates of one row at times.
func timed(l ...api.Time) []api.Update {
	var u []api.Update
	for _, t := range l {
		u = append(u, bare(t, 1, nil))
	}
	return u
}

// 13.1
func TestTimes(t *testing.T) {
	big := uint64(maxNumber)
	for _, x := range []struct{ given, want []api.Time }{
		{nil, nil},
		{[]api.Time{at(0)}, []api.Time{at(0)}},
		{[]api.Time{at(3), at(1), at(3), at(1), at(2)}, []api.Time{at(1), at(2), at(3)}},
		{[]api.Time{at(big, big, big), at(big, 0, big), at(0)}, []api.Time{at(0), at(big, 0, big), at(big, big, big)}},
		{[]api.Time{at(1, 0, 0), at(0, 1, 0), at(0, 0, 1)}, []api.Time{at(0, 0, 1), at(0, 1, 0), at(0, 1, 1), at(1, 0, 0), at(1, 0, 1), at(1, 1, 0), at(1, 1, 1)}},
		// Of the same epoch, in either order of the rounds.
		{[]api.Time{at(4, 2, 0), at(4, 0, 2), at(4, 1, 1)}, []api.Time{at(4, 0, 2), at(4, 1, 1), at(4, 1, 2), at(4, 2, 0), at(4, 2, 1), at(4, 2, 2)}},
		// A bound of all three that is none of two.
		{[]api.Time{at(2, 1, 1), at(1, 2, 1), at(1, 1, 2)}, []api.Time{at(1, 1, 2), at(1, 2, 1), at(1, 2, 2), at(2, 1, 1), at(2, 1, 2), at(2, 2, 1), at(2, 2, 2)}},
		// A bound that is given, too.
		{[]api.Time{at(1, 1), at(0, 1), at(1, 0)}, []api.Time{at(0, 1), at(1, 0), at(1, 1)}},
		{[]api.Time{at(0, big), at(big, 0)}, []api.Time{at(0, big), at(big, 0), at(big, big)}},
	} {
		for range 2 {
			l, why := group.Times(timed(x.given...))
			if !slices.Equal(l, x.want) || why != api.OK {
				t.Errorf("times of %d: %d, error %d; want %d", x.given, l, why, x.want)
			}
			slices.Reverse(x.given)
		}
	}
	// Keys, rows and Diffs do not matter.
	l, why := group.Times(ups(up(at(1), 1, 1, 1), up(at(1), -1, 1, 1), up(at(0, 3), 0, 2, "a")))
	if !slices.Equal(l, []api.Time{at(0, 3), at(1), at(1, 3)}) || why != api.OK {
		t.Errorf("times %d, error %d", l, why)
	}
	for no, lists := range wrong() {
		for _, w := range lists {
			if l, why := group.Times(w); len(l) > 0 || why != no {
				t.Errorf("times of %s: %d, error %d; want %d", show(w), l, why, no)
			}
		}
	}
}

// told is a plan, a key, updates and what they are to produce.
type told struct {
	plan api.Plan
	key  []api.Value
	l    []api.Update
	want outcome
}

// counted is cases of AggCount.
func counted() []told {
	p := reduce(api.AggCount, 0)
	a, b := row(1, "a"), row(2, "b")
	return []told{
		{p, nil, nil, fine()},
		{p, row(7), ups(bare(at(2), 3, a)), fine(bare(at(2), 1, row(7, 3)))},
		{p, row("x", 7), ups(bare(at(2), -3, a)), fine(bare(at(2), 1, row("x", 7, -3)))},
		{p, nil, ups(bare(at(2), 0, a)), fine()},
		// Rows that come to 0 together are there; a row that comes to 0 is not.
		{p, nil, ups(bare(at(2), 3, a), bare(at(2), -3, b)), fine(bare(at(2), 1, row(0)))},
		{p, nil, ups(bare(at(2), 3, a), bare(at(2), -3, a)), fine()},
		{p, nil, ups(bare(at(2), 3, a), bare(at(4), -3, a)), fine(bare(at(2), 1, row(3)), bare(at(4), -1, row(3)))},
		{p, nil, ups(bare(at(2), 3, a), bare(at(4), -3, a), bare(at(9), 3, b)), fine(bare(at(2), 1, row(3)), bare(at(4), -1, row(3)), bare(at(9), 1, row(3)))},
		{p, nil, ups(bare(at(2), 3, a), bare(at(4), -3, a), bare(at(4), 3, b)), fine(bare(at(2), 1, row(3)))},
		// Whatever their keys, and in whatever order they come.
		{p, row(9), ups(up(at(3), 1, 1, 1), up(at(1), 1, 2, 2), bare(at(3), 2, b)), fine(bare(at(1), 1, row(9, 1)), bare(at(3), -1, row(9, 1)), bare(at(3), 1, row(9, 4)))},
		// What is there at incomparable times is there once at their bound.
		{p, nil, ups(bare(at(0, 1), 1, a), bare(at(1, 0), -1, a)), fine(bare(at(1, 0), 1, row(-1)), bare(at(1, 1), -1, row(-1)), bare(at(0, 1), 1, row(1)), bare(at(1, 1), -1, row(1)))},
		{p, nil, ups(bare(at(0), 1, a), bare(at(0, 0, 1), 1, a), bare(at(0, 1, 0), 1, a)), fine(
			bare(at(0), 1, row(1)), bare(at(0, 0, 1), -1, row(1)), bare(at(0, 1, 0), -1, row(1)), bare(at(0, 1, 1), 1, row(1)),
			bare(at(0, 0, 1), 1, row(2)), bare(at(0, 1, 0), 1, row(2)), bare(at(0, 1, 1), -2, row(2)), bare(at(0, 1, 1), 1, row(3)))},
		// The plan's other fields do not matter.
		{api.Plan{Kind: api.PlanReduce, Agg: api.AggCount, N: -5, Cols: []int{9}, With: []int{1}, Rounds: 3, Kids: make([]api.Plan, 2)}, row(1), ups(bare(at(0), 1, a)), fine(bare(at(0), 1, row(1, 1)))},

		// Numbers that do not fit: of a row, or of all; what is there later is right again.
		{p, nil, ups(bare(at(1), greatest, a), bare(at(2), 1, a)), failed(at(2), bare(at(1), 1, row(greatest)))},
		{p, nil, ups(bare(at(1), greatest, a), bare(at(2), 1, b)), failed(at(2), bare(at(1), 1, row(greatest)))},
		{p, nil, ups(bare(at(1), greatest, a), bare(at(2), 1, a), bare(at(3), -1, b)), failed(at(2), bare(at(1), 1, row(greatest)))},
		{p, nil, ups(bare(at(1), greatest, a), bare(at(2), 1, b), bare(at(3), -1, a)), failed(at(2), bare(at(1), 1, row(greatest)))},
		{p, nil, ups(bare(at(1), greatest, a), bare(at(2), 1, b), bare(at(3), -2, a)), failed(at(2), bare(at(3), 1, row(greatest-1)), bare(at(1), 1, row(greatest)), bare(at(3), -1, row(greatest)))},
		{p, nil, ups(bare(at(1), least, a), bare(at(2), -1, b), bare(at(5), 1, b)), failed(at(2), bare(at(1), 1, row(least)))},
		{p, nil, ups(bare(at(1), greatest, a), bare(at(1), 1, b), bare(at(1), -1, row(5))), fine(bare(at(1), 1, row(greatest)))},
		{p, nil, ups(bare(at(1), greatest, a), bare(at(1), 1, a), bare(at(1), -1, a)), fine(bare(at(1), 1, row(greatest)))},
		{p, nil, ups(bare(at(0), -1, a), bare(at(1), greatest, a), bare(at(1), 1, a)), fine(bare(at(0), 1, row(-1)), bare(at(1), -1, row(-1)), bare(at(1), 1, row(greatest)))},
		{p, nil, ups(bare(at(1, 0), greatest, a), bare(at(0, 1), 1, b)), failed(at(1, 1), bare(at(0, 1), 1, row(1)), bare(at(1, 0), 1, row(greatest)))},
		// The first time in the linear order, of several.
		{p, nil, ups(bare(at(4, 0, 2), greatest, a), bare(at(4, 0, 2), 1, b), bare(at(3, 7), least, a), bare(at(3, 7), -1, b)), failed(at(3, 7), bare(at(4, 7, 2), 1, row(-1)))},
	}
}

// summed is cases of AggSum.
func summed() []told {
	p, q := reduce(api.AggSum, 0), reduce(api.AggSum, 1)
	return []told{
		{p, nil, ups(bare(at(1), 1, row(5))), fine(bare(at(1), 1, row(5)))},
		{p, row("k"), ups(bare(at(1), 2, row(5)), bare(at(1), -3, row(-4)), bare(at(2), 1, row(0))), fine(bare(at(1), 1, row("k", 22)))},
		{q, nil, ups(bare(at(1), 2, row("a", 5)), bare(at(1), 1, row("b", 7)), bare(at(3), -2, row("a", 5))), fine(bare(at(3), 1, row(7)), bare(at(1), 1, row(17)), bare(at(3), -1, row(17)))},
		{p, nil, ups(bare(at(1), 1, row(0))), fine(bare(at(1), 1, row(0)))},
		{p, nil, ups(bare(at(1), 0, row(5))), fine()},
		{p, nil, ups(bare(at(1), 1, row(1<<62)), bare(at(1), 1, row(1<<62, 1)), bare(at(1), 1, row(-1))), fine(bare(at(1), 1, row(greatest)))},
		{p, nil, ups(bare(at(1), 2, row(1<<62)), bare(at(1), 1, row(-1))), failed(at(1))},
		{p, nil, ups(bare(at(1), -1, row(least)), bare(at(2), 1, row(least))), failed(at(1))},
		{p, nil, ups(bare(at(1), -2, row(1<<62))), fine(bare(at(1), 1, row(least)))},
		{p, nil, ups(bare(at(1), 1, row(4)), bare(at(3), 2, row(1<<62)), bare(at(5), -1, row(1<<62))), failed(at(3), bare(at(1), 1, row(4)), bare(at(5), -1, row(4)), bare(at(5), 1, row(1<<62+4)))},
	}
}

// picked is cases of AggMin, AggMax, AggTop and PlanDistinct.
func picked() []told {
	least, most, top := reduce(api.AggMin, 0), reduce(api.AggMax, 0), func(n int) api.Plan { return reduce(api.AggTop, n) }
	l := ups(bare(at(1), 2, row(5, "a")), bare(at(1), -1, row(1, "b")), bare(at(2), 1, row(3, "c")), bare(at(4), -2, row(5, "a")), bare(at(4), 2, row(1, "b")))
	var many []api.Update
	for i := range 10 {
		many = append(many, bare(at(0), 1, row(i)))
	}
	gone := ups(bare(at(1), 1, row(5)), bare(at(3), -1, row(5)), bare(at(4), -1, row(5)))
	return []told{
		{least, row("k"), l, fine(bare(at(4), 1, row("k", 1)), bare(at(2), 1, row("k", 3)), bare(at(4), -1, row("k", 3)), bare(at(1), 1, row("k", 5)), bare(at(2), -1, row("k", 5)))},
		{most, nil, l, fine(bare(at(4), 1, row(3)), bare(at(1), 1, row(5)), bare(at(4), -1, row(5)))},
		{reduce(api.AggMin, 1), nil, l, fine(bare(at(1), 1, row("a")), bare(at(4), -1, row("a")), bare(at(4), 1, row("b")))},
		{reduce(api.AggMax, 1), nil, l, fine(bare(at(1), 1, row("a")), bare(at(2), -1, row("a")), bare(at(2), 1, row("c")))},
		{most, nil, ups(bare(at(0), 1, row(5)), bare(at(0), 1, row("")), bare(at(1), -1, row(""))), fine(bare(at(1), 1, row(5)), bare(at(0), 1, row("")), bare(at(1), -1, row("")))},
		{least, nil, gone, fine(bare(at(1), 1, row(5)), bare(at(3), -1, row(5)))},
		{most, nil, ups(bare(at(0), -1, row(5))), fine()},

		{top(1), row(9), l, fine(bare(at(4), 1, row(3, "c")), bare(at(1), 1, row(5, "a")), bare(at(4), -1, row(5, "a")))},
		{top(2), nil, l, fine(bare(at(4), 1, row(1, "b")), bare(at(2), 1, row(3, "c")), bare(at(1), 1, row(5, "a")), bare(at(4), -1, row(5, "a")))},
		{top(8), nil, many, fine(many[2:]...)},
		{top(7), nil, slices.Concat(many, ups(bare(at(1, 1), -7, row(9)))), fine(slices.Concat(ups(bare(at(1, 1), 1, row(2))), many[3:], ups(bare(at(1, 1), -1, row(9))))...)},
		{top(1), nil, gone, fine(gone[:2]...)},

		{distinct(), nil, l, fine(bare(at(4), 1, row(1, "b")), bare(at(2), 1, row(3, "c")), bare(at(1), 1, row(5, "a")), bare(at(4), -1, row(5, "a")))},
		{distinct(), row("no", "matter"), gone, fine(gone[:2]...)},
		{distinct(), nil, ups(bare(at(0, 1), 1, row(1)), bare(at(1, 0), 1, row(1))), fine(bare(at(0, 1), 1, row(1)), bare(at(1, 0), 1, row(1)), bare(at(1, 1), -1, row(1)))},
		{distinct(), nil, ups(bare(at(0, 1), 1, row(1)), bare(at(1, 0), -1, row(1))), fine(bare(at(0, 1), 1, row(1)), bare(at(1, 1), -1, row(1)))},
		{distinct(), nil, ups(bare(at(1), greatest, nil), bare(at(2), 1, nil), bare(at(2), -5, row(1)), bare(at(3), -1, nil)), failed(at(2), bare(at(1), 1, nil))},
		{api.Plan{Kind: api.PlanDistinct, Agg: api.AggCountKinds, N: -1}, nil, many, fine(many...)},
	}
}

// keyed is cases of keys that are as long as they may be: there is no room for a result behind them.
func keyed() []told {
	long := wide(maxCols)
	l := ups(bare(at(3, 1), 1, row(1)), bare(at(3), 1, row(1)), bare(at(5), -3, row(1)), bare(at(4), 1, row(2)))
	var c []told
	for _, agg := range []api.AggKind{api.AggCount, api.AggSum, api.AggMin, api.AggMax} {
		p := reduce(agg, 0)
		c = append(c,
			told{p, long, l, failed(at(3))},
			told{p, long, nil, fine()},
			told{p, long, ups(bare(at(3), 0, row(1))), fine()},
			told{p, long, ups(bare(at(1), 1, row(1)), bare(at(1), -1, row(1)), bare(at(7), 1, row(1))), failed(at(7))},
			told{p, long, ups(bare(at(6), 1, row(1)), bare(at(5, 2), -1, row(1))), failed(at(5, 2))},
			told{p, long[1:], ups(bare(at(3), 1, row(1))), fine(bare(at(3), 1, append(wide(maxCols-1), row(1)...)))})
	}
	return append(c,
		told{reduce(api.AggTop, 1), long, ups(bare(at(3), 1, row(1))), fine(bare(at(3), 1, row(1)))},
		told{reduce(api.AggTop, 1), nil, ups(bare(at(3), 1, long)), fine(bare(at(3), 1, long))},
		told{distinct(), long, ups(bare(at(3), 1, long)), fine(bare(at(3), 1, long))},
		told{reduce(api.AggMin, maxCols-1), long[1:], ups(bare(at(3), 1, long)), fine(bare(at(3), 1, long))})
}

// 13.2
func TestTell(t *testing.T) {
	for i, x := range slices.Concat(counted(), summed(), picked(), keyed()) {
		name := fmt.Sprintf("case %d, %d of %d by %s: %s", i, x.plan.Agg, x.plan.N, showRow(x.key), show(x.l))
		want(t, name, of(group.Tell(x.plan, x.key, x.l)), x.want)
		behind := slices.Clone(x.l)
		slices.Reverse(behind)
		want(t, name+" from behind", of(group.Tell(x.plan, x.key, behind)), x.want)
	}
}

// unfit is plans that no group has a result by.
func unfit() []api.Plan {
	l := []api.Plan{reduce(api.AggNone, 0), reduce(api.AggCountKinds, 0), reduce(255, 0)}
	for _, n := range []int{math.MinInt, -1, 0, 9, 10, math.MaxInt} {
		l = append(l, reduce(api.AggTop, n))
	}
	for k := range 256 {
		if kind := api.PlanKind(k); kind != api.PlanReduce && kind != api.PlanDistinct {
			l = append(l, api.Plan{Kind: kind, Agg: api.AggCount})
		}
	}
	return l
}

// strange is updates whose rows do not fit a plan that has a result for others.
func strange() map[*api.Plan][][]api.Update {
	m := map[*api.Plan][][]api.Update{}
	for _, agg := range []api.AggKind{api.AggSum, api.AggMin, api.AggMax} {
		for _, n := range []int{math.MinInt, -1, 8, 9, math.MaxInt} {
			p := reduce(agg, n)
			m[&p] = [][]api.Update{ups(bare(at(1), 1, nil)), ups(bare(at(1), 1, row(1))), ups(bare(at(1), 1, wide(maxCols)))}
		}
		p := reduce(agg, 1)
		m[&p] = [][]api.Update{ups(bare(at(1), 1, row(1))), ups(bare(at(1), 0, row(1))), ups(bare(at(1), 1, row(1, 1)), bare(at(1), 1, nil))}
	}
	p := reduce(api.AggSum, 1)
	m[&p] = [][]api.Update{ups(bare(at(1), 1, row(1, "a"))), ups(bare(at(1), 1, row(1, 1)), bare(at(1), 0, row(1, "")))}
	return m
}

// 13.2: the plan and its rows come first, then the key, then the updates.
func TestTellWrong(t *testing.T) {
	u, late := ups(up(at(1), 1, 1, 1, 1)), ups(bare(at(maxNumber+1), 1, row(1, 1)))
	keys := [][]api.Value{wide(maxCols + 1), {{N: 1, S: "x"}}, {{IsText: true, N: 1}}, row(1, strings.Repeat("x", maxText+1))}
	for _, p := range unfit() {
		for _, l := range [][]api.Update{nil, u, late} {
			want(t, fmt.Sprintf("kind %d, agg %d of %d", p.Kind, p.Agg, p.N), of(group.Tell(p, nil, l)), no(api.ErrForm))
		}
	}
	for p, lists := range strange() {
		for _, l := range lists {
			for _, l := range [][]api.Update{l, slices.Concat(l, late), slices.Concat(late, l)} {
				want(t, fmt.Sprintf("agg %d of %d: %s", p.Agg, p.N, show(l)), of(group.Tell(*p, nil, l)), no(api.ErrForm))
			}
		}
	}
	for _, p := range []api.Plan{distinct(), reduce(api.AggCount, 0), reduce(api.AggCount, 99), reduce(api.AggTop, 1), reduce(api.AggTop, 8)} {
		for why, lists := range wrong() {
			for _, l := range lists {
				want(t, show(l), of(group.Tell(p, row(1), l)), no(why))
			}
		}
		for _, key := range keys {
			want(t, showRow(key), of(group.Tell(p, key, nil)), no(api.ErrForm))
			want(t, showRow(key), of(group.Tell(p, key, late)), no(api.ErrForm))
		}
		want(t, "a time that is too late", of(group.Tell(p, row(1), late)), no(api.ErrRange))
		if _, _, why := group.Tell(p, row(1), u); why != api.OK {
			t.Errorf("agg %d: error %d", p.Agg, why)
		}
	}
	for _, agg := range []api.AggKind{api.AggSum, api.AggMin, api.AggMax} {
		want(t, "a time that is too late", of(group.Tell(reduce(agg, 1), row(1), late)), no(api.ErrRange))
		want(t, "a row that is too long", of(group.Tell(reduce(agg, maxCols), nil, ups(bare(at(maxNumber+1), 1, wide(maxCols+1))))), no(api.ErrForm))
	}
}
