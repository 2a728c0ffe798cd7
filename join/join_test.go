package join_test

import (
	"fmt"
	"math"
	"slices"
	"strings"
	"testing"

	"freshet/api"
	"freshet/join"
	"freshet/spine"
)

// The limits are written out, as they are themselves part of what is tested.
const (
	maxCols   = 8
	maxText   = 64
	maxNumber = 1 << 62
)

const (
	greatest = math.MaxInt64
	least    = math.MinInt64
)

// row has a number for each integer, and a text for each string.
func row(l ...any) []api.Value {
	var r []api.Value
	for _, x := range l {
		switch x := x.(type) {
		case int:
			r = append(r, api.Value{N: int64(x)})
		case string:
			r = append(r, api.Value{IsText: true, S: x})
		}
	}
	return r
}

// wide is a row of n values.
func wide(n int) []api.Value { return make([]api.Value, n) }

func at(epoch uint64, rounds ...uint64) api.Time {
	t := api.Time{Epoch: epoch}
	copy(t.Loop[:], rounds)
	return t
}

// up is an update whose key is one number.
func up(t api.Time, n int64, key int, l ...any) api.Update {
	return api.Update{Key: row(key), Row: row(l...), Time: t, Diff: n}
}

// bare is an update without a key.
func bare(t api.Time, n int64, r []api.Value) api.Update {
	return api.Update{Row: r, Time: t, Diff: n}
}

func ups(l ...api.Update) []api.Update { return l }

// outcome is what a call answers.
type outcome struct {
	l   []api.Update
	at  api.Time
	why api.Errno
}

func of(l []api.Update, t api.Time, why api.Errno) outcome { return outcome{l, t, why} }

func fine(l ...api.Update) outcome { return outcome{l: l} }

// failed is the outcome of a failure.
func failed(t api.Time, l ...api.Update) outcome { return outcome{l, t, api.ErrOver} }

func no(why api.Errno) outcome { return outcome{why: why} }

func showRow(r []api.Value) string {
	s := ""
	for _, v := range r {
		s += fmt.Sprintf(" %d", v.N)
		if v.IsText || v.S != "" {
			s += fmt.Sprintf("/%t/%.9q", v.IsText, v.S)
		}
	}
	return s
}

func show(l []api.Update) string {
	var s []string
	for _, u := range l[:min(len(l), 20)] {
		s = append(s, fmt.Sprintf("(%s;%s) %d at %d", showRow(u.Key), showRow(u.Row), u.Diff, u.Time))
	}
	return fmt.Sprintf("%d %s", len(l), s)
}

func (o outcome) String() string {
	return fmt.Sprintf("%s, time %d, error %d", show(o.l), o.at, o.why)
}

func same(a, b outcome) bool {
	return a.at == b.at && a.why == b.why && slices.EqualFunc(a.l, b.l, func(x, y api.Update) bool {
		return slices.Equal(x.Key, y.Key) && slices.Equal(x.Row, y.Row) && x.Time == y.Time && x.Diff == y.Diff
	})
}

func want(t *testing.T, name string, got, want outcome) {
	t.Helper()
	if !same(got, want) {
		t.Errorf("%s: %s; want %s", name, got, want)
	}
}

// wrong is lists of updates that are not valid, with the error of each.
func wrong() map[api.Errno][][]api.Update {
	u, late := up(at(1), 1, 1, 1), up(at(maxNumber+1), 1, 1, 1)
	long := bare(at(0), 1, wide(maxCols+1))
	return map[api.Errno][][]api.Update{
		api.ErrForm: {
			ups(long), ups(u, long), ups(long, late), {{Key: wide(maxCols + 1), Time: late.Time}},
			ups(up(at(0), 0, 1, strings.Repeat("x", maxText+1))), {{Row: []api.Value{{N: 1, S: "x"}}}}, {{Key: []api.Value{{IsText: true, N: 1}}}},
		},
		api.ErrRange: {ups(late), ups(u, late), ups(late, long), ups(up(at(0, maxNumber+1), 0, 1)), ups(up(at(0, 0, math.MaxUint64), 1, 1, "a"))},
	}
}

// insert is a spine with lists of updates, inserted one behind the other.
func insert(t *testing.T, s api.Spine, lists ...[]api.Update) api.Spine {
	t.Helper()
	for _, l := range lists {
		c, why := spine.Insert(s, l)
		if why != api.OK {
			t.Fatalf("inserting %s: error %d", show(l), why)
		}
		s = c
	}
	return s
}

func compact(t *testing.T, s api.Spine, since ...api.Time) api.Spine {
	t.Helper()
	c, why := spine.Compact(s, since)
	if why != api.OK {
		t.Fatalf("compacting to %d: error %d", since, why)
	}
	return c
}

// The document's examples.
func TestExamples(t *testing.T) {
	big := int64(1) << 40
	want(t, "numbers that are too great", of(join.Pairs(ups(up(at(2), big, 1, 1)), ups(up(at(5), big, 1, 2)))), failed(at(5)))

	var s, none api.Spine
	s, none, l, _, why := join.Step(s, none, 0, ups(up(at(0), 2, 1, 5), up(at(0), 1, 2, 6)))
	if len(l) != 0 || why != api.OK {
		t.Errorf("nothing matches: %s, error %d", show(l), why)
	}
	_, _, l, when, why := join.Step(s, none, 1, ups(up(at(3), 3, 1, 7)))
	want(t, "what matches one of two", of(l, when, why), fine(bare(at(3), 6, row(5, 7))))
	if _, _, _, _, why := join.Step(s, none, 2, nil); why != api.ErrRange {
		t.Errorf("port 2: error %d", why)
	}

	a, b := ups(up(at(1), 2, 1, 1, "a")), ups(up(at(2), 3, 1, 1, "b"))
	want(t, "rows with their keys", of(join.Pairs(a, b)), fine(bare(at(2), 6, row(1, "a", 1, "b"))))
}

// by is an update of a row with any key.
func by(key []api.Value, l ...any) api.Update {
	return api.Update{Key: key, Row: row(l...), Diff: 1}
}

// pair is lists of updates, and what their pairs are to produce.
type pair struct {
	a, b []api.Update
	want outcome
}

func pairs() []pair {
	long := api.Update{Key: row(1), Row: wide(maxCols), Diff: 1}
	none := api.Update{Key: row(1), Row: wide(maxCols)}
	return []pair{
		{nil, nil, fine()},
		{ups(up(at(0), 1, 1, 1)), nil, fine()},
		{nil, ups(up(at(0), 1, 1, 1)), fine()},
		{ups(up(at(1), -2, 1, "a")), ups(up(at(0), 3, 1, 4)), fine(bare(at(1), -6, row("a", 4)))},
		{ups(up(at(1), -2, 1, 4)), ups(up(at(0), 3, 1, "a")), fine(bare(at(1), -6, row(4, "a")))},
		{ups(up(at(1, 5, 0), -2, 1)), ups(up(at(0, 2, 7), -3, 1)), fine(bare(at(1, 5, 7), 6, nil))},
		{ups(up(at(maxNumber, 0, maxNumber), 1, 1)), ups(up(at(0, maxNumber), 1, 1)), fine(bare(at(maxNumber, maxNumber, maxNumber), 1, nil))},
		{ups(up(at(0), 0, 1, 1)), ups(up(at(0), least, 1, 1)), fine()},

		// Keys match as a whole, whatever the rows are.
		{ups(up(at(0), 1, 1, 5)), ups(up(at(0), 1, 2, 5)), fine()},
		{ups(bare(at(0), 1, row(1))), ups(bare(at(0), 2, row(2))), fine(bare(at(0), 2, row(1, 2)))},
		{ups(bare(at(0), 1, row(1))), ups(up(at(0), 1, 0, 1)), fine()},
		{ups(by(row(1, "a"), 1)), ups(by(row(1)), by(row("a")), by(row(1, "a", 1)), by(row(1, "b"))), fine()},
		{ups(by(row(1, "a"), 1)), ups(by(row(1, "b")), by(row(1, "a"))), fine(bare(at(0), 1, row(1)))},
		{ups(by(row(1))), ups(by(row("1"))), fine()},
		{ups(by(wide(maxCols))), ups(by(wide(maxCols)), by(wide(maxCols-1))), fine(bare(at(0), 1, nil))},

		// All pairs, whatever their order; what comes to the same is summed.
		{
			ups(up(at(0), 1, 3, 1), up(at(0), 2, 1, 2), up(at(0), 3, 2, 3), up(at(0), 4, 1, 4)),
			ups(up(at(0), 1, 1, 5), up(at(0), 1, 3, 6), up(at(0), 1, 1, 7), up(at(0), 1, 4, 8)),
			fine(bare(at(0), 1, row(1, 6)), bare(at(0), 2, row(2, 5)), bare(at(0), 2, row(2, 7)), bare(at(0), 4, row(4, 5)), bare(at(0), 4, row(4, 7))),
		},
		{ups(up(at(0), 2, 1, 1), up(at(0), 3, 1, 1, 2)), ups(up(at(0), 5, 1, 2, 3), up(at(0), 7, 1, 3)), fine(bare(at(0), 15, row(1, 2, 2, 3)), bare(at(0), 10+21, row(1, 2, 3)), bare(at(0), 14, row(1, 3)))},
		{ups(up(at(0), 2, 1, 1), up(at(0), 2, 2, 1)), ups(up(at(0), 3, 1, 2), up(at(0), -3, 2, 2)), fine()},
		{ups(up(at(0), 2, 1, 1), up(at(1), 2, 1, 1)), ups(up(at(1), 3, 1, 2)), fine(bare(at(1), 12, row(1, 2)))},

		// Rows that are too long together.
		{ups(up(at(0), 1, 1, 1, 2, 3, 4)), ups(up(at(0), 1, 1, 5, 6, 7, 8)), fine(bare(at(0), 1, row(1, 2, 3, 4, 5, 6, 7, 8)))},
		{ups(up(at(0, 2), 1, 1, 1, 2, 3, 4, 5), up(at(0), 1, 1)), ups(up(at(0, 1, 3), 1, 1, 5, 6, 7, 8)), failed(at(0, 2, 3), bare(at(0, 1, 3), 1, row(5, 6, 7, 8)))},
		{ups(long), ups(up(at(1), 1, 1), up(at(0), 1, 1, 1)), failed(at(0), bare(at(1), 1, wide(maxCols)))},
		{ups(long), ups(up(at(1), 1, 2, 1)), fine()},
		{ups(none), ups(up(at(1), 0, 1, 1)), failed(at(1))},

		// Products, and sums, that do not fit.
		{ups(up(at(0), least, 1, 1)), ups(up(at(0), -1, 1, 1), up(at(4), 1, 1, 1)), failed(at(0), bare(at(4), least, row(1, 1)))},
		{ups(up(at(0), 1<<32, 1, 1)), ups(up(at(0), 1<<31, 1, 1)), failed(at(0))},
		{ups(up(at(0), 1<<31, 1, 1)), ups(up(at(0), 1<<31, 1, 1)), fine(bare(at(0), 1<<62, row(1, 1)))},
		{ups(up(at(7), 1<<32, 1, 1), up(at(5, 1), 1<<32, 1, 2), up(at(5, 0, 1), 1<<32, 1, 3)), ups(up(at(0), 1<<31, 1, 1)), failed(at(5, 0, 1))},
		{ups(up(at(0), 1<<31, 1, 1), up(at(0), 1<<31, 2, 1), up(at(0), 1, 2, 2)), ups(up(at(3), 1<<31, 1, 1), up(at(3), 1<<31, 2, 1)), failed(at(3), bare(at(3), 1<<31, row(2, 1)))},
		{ups(up(at(0), greatest, 1, 1), up(at(0), 1, 2, 1), up(at(0), -1, 3, 1)), ups(up(at(0), 1, 1, 1), up(at(0), 1, 2, 1), up(at(0), 1, 3, 1)), fine(bare(at(0), greatest, row(1, 1)))},
		// Both, in both orders: the sum fails at 3.
		{ups(up(at(3), greatest, 1, 1), up(at(3), 1, 2, 1), up(at(4), 2, 1, 5)), ups(up(at(0), 1, 1, 1), up(at(0), 1, 2, 1), up(at(0), greatest, 1, 2)), failed(at(3), bare(at(4), 2, row(5, 1)))},
		{ups(up(at(3), greatest, 1, 1), up(at(3), 1, 2, 1), up(at(2), 2, 3, 5)), ups(up(at(0), 1, 1, 1), up(at(0), 1, 2, 1), up(at(0), greatest, 3, 2)), failed(at(2))},
	}
}

// 12.1, and 12.2 of spines of which one is empty at first.
func TestPairs(t *testing.T) {
	for i, x := range pairs() {
		want(t, fmt.Sprintf("case %d", i), of(join.Pairs(x.a, x.b)), x.want)
		left, right := insert(t, api.Spine{}, x.a), insert(t, api.Spine{}, x.b)
		l, r, made, when, why := join.Step(api.Spine{}, right, 0, x.a)
		if len(x.b) > 0 && len(x.a) > 0 && x.a[0].Diff != 0 && x.b[0].Diff != 0 {
			want(t, fmt.Sprintf("case %d at port 0", i), of(made, when, why), x.want)
		}
		wantSpines(t, fmt.Sprintf("case %d at port 0", i), l, r, left, right)
		l, r, made, when, why = join.Step(left, api.Spine{}, 1, x.b)
		if len(x.b) > 0 && len(x.a) > 0 && x.a[0].Diff != 0 && x.b[0].Diff != 0 {
			want(t, fmt.Sprintf("case %d at port 1", i), of(made, when, why), x.want)
		}
		wantSpines(t, fmt.Sprintf("case %d at port 1", i), l, r, left, right)
		slices.Reverse(x.a)
		slices.Reverse(x.b)
		want(t, fmt.Sprintf("case %d from behind", i), of(join.Pairs(x.a, x.b)), x.want)
	}
}

// 12.1: the error of a comes first, then that of b.
func TestPairsWrong(t *testing.T) {
	u := ups(up(at(1), 1, 1, 1))
	for why, lists := range wrong() {
		for _, l := range lists {
			for _, x := range [][]api.Update{nil, u, {{Key: row(1), Row: wide(maxCols)}}} {
				want(t, show(l)+" and "+show(x), of(join.Pairs(l, x)), no(why))
				want(t, show(x)+" and "+show(l), of(join.Pairs(x, l)), no(why))
			}
			for _, other := range wrong() {
				for _, x := range other {
					want(t, show(l)+" and "+show(x), of(join.Pairs(l, x)), no(why))
				}
			}
		}
	}
}

// What group asks, too: each key once.
func TestKeys(t *testing.T) {
	l := ups(up(at(1), 1, 3, 1), up(at(2), 0, 1, 2), by(row("a")), up(at(1), 1, 3, 4), by(nil), by(row(1, 5)), by(row("a"), 2))
	for range 2 {
		keys := join.Keys(l)
		if want := [][]api.Value{nil, row(1), row(1, 5), row(3), row("a")}; !slices.EqualFunc(keys, want, slices.Equal) {
			t.Errorf("%v, want %v", keys, want)
		}
		slices.Reverse(l)
		keys[1][0].N = 7
	}
	if keys := join.Keys(nil); len(keys) > 0 || l[1].Key[0].N != 1 {
		t.Errorf("of none: %v; %s", keys, show(l))
	}
}
