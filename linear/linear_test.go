package linear_test

import (
	"fmt"
	"math"
	"slices"
	"strings"
	"testing"

	"freshet/api"
	"freshet/diff"
	"freshet/linear"
)

// The limits are written out, as they are themselves part of what is tested.
const (
	maxCols   = 8
	maxText   = 64
	maxRounds = 16
	maxLoops  = 2
	maxNumber = 1 << 62
)

const (
	greatest = math.MaxInt64
	least    = math.MinInt64
)

// row has a number for each integer, and a text for each string.
func row(l ...any) []api.Value {
	var r []api.Value
	for _, x := range l {
		switch x := x.(type) {
		case int:
			r = append(r, api.Value{N: int64(x)})
		case string:
			r = append(r, api.Value{IsText: true, S: x})
		}
	}
	return r
}

func at(epoch uint64, rounds ...uint64) api.Time {
	t := api.Time{Epoch: epoch}
	copy(t.Loop[:], rounds)
	return t
}

// up is an update of a row, without a key.
func up(t api.Time, n int64, l ...any) api.Update {
	return api.Update{Row: row(l...), Time: t, Diff: n}
}

// keyed is an update with a key.
func keyed(key []api.Value, u api.Update) api.Update {
	u.Key = key
	return u
}

func ups(l ...api.Update) []api.Update { return l }

func col(i int) api.Expr { return api.Expr{Op: api.ExprCol, Col: i} }

func con(x any) api.Expr { return api.Expr{Op: api.ExprConst, Const: row(x)[0]} }

func op(o api.ExprOp, kids ...api.Expr) api.Expr { return api.Expr{Op: o, Kids: kids} }

func mapped(exprs ...api.Expr) api.Plan { return api.Plan{Kind: api.PlanMap, Exprs: exprs} }
func filter(exprs ...api.Expr) api.Plan { return api.Plan{Kind: api.PlanFilter, Exprs: exprs} }

var (
	concat = api.Plan{Kind: api.PlanConcat}
	negate = api.Plan{Kind: api.PlanNegate}
	// more is the map that adds 1 to column 0.
	more = mapped(op(api.ExprAdd, col(0), con(1)))
)

// outcome is what a call answers.
type outcome struct {
	l   []api.Update
	at  api.Time
	why api.Errno
}

func of(l []api.Update, t api.Time, why api.Errno) outcome { return outcome{l, t, why} }

func list(l []api.Update, why api.Errno) outcome { return outcome{l: l, why: why} }

// fine is the outcome of updates without an error.
func fine(l ...api.Update) outcome { return outcome{l: l} }

// failed is the outcome of a failure.
func failed(t api.Time, l ...api.Update) outcome { return outcome{l, t, api.ErrOver} }

func no(why api.Errno) outcome { return outcome{why: why} }

func showRow(r []api.Value) string {
	s := ""
	for _, v := range r {
		s += fmt.Sprintf(" %d", v.N)
		if v.IsText || v.S != "" {
			s += fmt.Sprintf("/%t/%.9q", v.IsText, v.S)
		}
	}
	return s
}

func show(l []api.Update) string {
	var s []string
	for _, u := range l[:min(len(l), 20)] {
		s = append(s, fmt.Sprintf("(%s;%s) %d at %d", showRow(u.Key), showRow(u.Row), u.Diff, u.Time))
	}
	return fmt.Sprintf("%d %s", len(l), s)
}

func (o outcome) String() string {
	return fmt.Sprintf("%s, time %d, error %d", show(o.l), o.at, o.why)
}

func same(a, b outcome) bool {
	return a.at == b.at && a.why == b.why && slices.EqualFunc(a.l, b.l, func(x, y api.Update) bool {
		return slices.Equal(x.Key, y.Key) && slices.Equal(x.Row, y.Row) && x.Time == y.Time && x.Diff == y.Diff
	})
}

func want(t *testing.T, name string, got, want outcome) {
	t.Helper()
	if !same(got, want) {
		t.Errorf("%s: %s; want %s", name, got, want)
	}
}

// wrong is lists of updates that are not valid, with the error of each.
func wrong() map[api.Errno][][]api.Update {
	late := up(at(maxNumber+1), 1, 1)
	long := keyed(row(1), api.Update{Row: make([]api.Value, maxCols+1)})
	return map[api.Errno][][]api.Update{
		api.ErrForm: {
			ups(long), ups(up(at(0), 1, 1), long), ups(long, late),
			ups(keyed(make([]api.Value, maxCols+1), late)),
			ups(up(at(0), 0, strings.Repeat("x", maxText+1))),
			{{Row: []api.Value{{N: 1, S: "x"}}}}, {{Key: []api.Value{{IsText: true, N: 1}}}},
		},
		api.ErrRange: {
			ups(late), ups(up(at(0), 1, 1), late), ups(late, long), ups(up(at(0, maxNumber+1), 0)), ups(up(at(0, 0, math.MaxUint64), 1, "a")),
		},
	}
}

// ends is updates at the edge of what is valid.
func ends() []api.Update {
	u := api.Update{Key: make([]api.Value, maxCols), Row: slices.Repeat(row(strings.Repeat("x", maxText)), maxCols), Time: at(maxNumber, 3, maxNumber-1), Diff: greatest}
	return ups(up(at(0), least+1), u)
}

// The document's examples.
func TestExamples(t *testing.T) {
	l := ups(up(at(3), 1, greatest), up(at(3), 2, 4), up(at(3), -1, 4))
	want(t, "the map", of(linear.Do(more, l)), failed(at(3), up(at(3), 1, 5)))
	want(t, "the filter", of(linear.Do(filter(col(0)), ups(up(at(0), 1, 0), up(at(0), 1, 4)))), fine(up(at(0), 1, 4)))
	want(t, "negating", of(linear.Do(negate, ups(up(at(7), least, 1)))), failed(at(7)))
	want(t, "arranging", list(linear.Arrange([]int{1}, ups(up(at(0), 1, 1)))), no(api.ErrRange))
	want(t, "entering", of(linear.Enter(0, 5, ups(up(at(0), 3, 1)))), fine(up(at(0), 3, 1), up(at(0, 1), -3, 1)))
	want(t, "the next round", list(linear.Next(0, 2, ups(up(at(0), 1, 1), up(at(0, 1), 1, 1), up(at(0, 2), 1, 1)))), fine(up(at(0, 1), 1, 1), up(at(0, 2), 1, 1)))
	want(t, "leaving", of(linear.Leave(2, nil)), no(api.ErrRange))

	entered, _, _ := linear.Enter(1, 16, ups(up(at(0), 1, "a")))
	for round, n := range []int{1, 0, 0} {
		if there, why := diff.At(entered, at(0, 0, uint64(round))); len(there) != n || why != api.OK {
			t.Errorf("%d rows are there in round %d, error %d", len(there), round, why)
		}
	}
}

// 11.2: what each kind makes of one update.
func TestDo(t *testing.T) {
	when := at(7, 2, 1)
	nine := slices.Repeat([]api.Expr{con(1)}, maxCols+1)
	for i, x := range []struct {
		p    api.Plan
		u    api.Update
		want outcome
	}{
		{more, up(when, -4, 8, "b"), fine(up(when, -4, 9))},
		{mapped(col(1), con("x"), col(0), col(1)), up(when, greatest, 8, "b"), fine(up(when, greatest, "b", "x", 8, "b"))},
		{mapped(), up(when, 2, 8), fine(up(when, 2))},
		{mapped(nine[1:]...), up(when, least), fine(up(when, least, 1, 1, 1, 1, 1, 1, 1, 1))},
		{mapped(nine...), up(when, 1, 8), failed(when)},
		{mapped(slices.Repeat(nine, 1000)...), up(when, 1, 8), failed(when)},
		{mapped(col(0), col(1)), up(when, 1, 8), failed(when)},
		{mapped(col(-1)), up(when, 1, 8), failed(when)},
		{mapped(op(api.ExprNeg, col(0))), up(when, 1, least), failed(when)},
		{mapped(op(api.ExprNeg, col(0))), up(when, 1, "a"), failed(when)},
		{mapped(col(0), op(api.ExprNeg, col(0))), up(when, 0, "a"), failed(when)},
		{mapped(op(api.ExprNeg)), up(when, 1, 8), failed(when)},
		{mapped(api.Expr{}), up(when, 1, 8), failed(when)},
		{mapped(con("x"), con(strings.Repeat("x", maxText+1))), up(when, 1, 8), failed(when)},
		// What is not evaluated has no error.
		{mapped(op(api.ExprIf, col(0), con(3), op(api.ExprNeg, con("x")))), up(when, 1, 8), fine(up(when, 1, 3))},

		{filter(col(0)), up(when, 5, 1, "b"), fine(up(when, 5, 1, "b"))},
		{filter(col(0)), up(when, 5, -1), fine(up(when, 5, -1))},
		{filter(col(0)), up(when, 5, 0), fine()},
		{filter(col(0)), up(when, 5, "b"), fine()},
		{filter(col(0)), up(when, 5, ""), fine()},
		{filter(), up(when, 5, 0), fine(up(when, 5, 0))},
		{filter(col(0), col(1)), up(when, 5, 1, 2), fine(up(when, 5, 1, 2))},
		{filter(col(0), col(1)), up(when, 5, 1, 0), fine()},
		{filter(col(0), col(1)), up(when, 5, 0, 1), fine()},
		{filter(col(0), col(1)), up(when, 5, 1, "b"), fine()},
		{filter(col(0), col(1)), up(when, 5, 0), failed(when)},
		{filter(col(1), col(0)), up(when, 5, 0), failed(when)},
		{filter(op(api.ExprMul, col(0), col(0))), up(when, 5, 1<<32), failed(when)},
		{filter(op(api.ExprLess, col(0), con("x"))), up(when, 5, 1), failed(when)},
		{filter(api.Expr{Op: api.ExprCount}), up(when, 5, 1), failed(when)},
		{filter(nine[1:]...), up(when, 5, 0), fine(up(when, 5, 0))},
		{filter(nine...), up(when, 5, 0), failed(when)},

		{negate, up(when, greatest, "a", 3), fine(up(when, -greatest, "a", 3))},
		{negate, up(when, least+1), fine(up(when, greatest))},
		{negate, up(when, least), failed(when)},
		{negate, up(when, 0, 1), fine()},

		{concat, up(when, least, "a", 3), fine(up(when, least, "a", 3))},
		{concat, up(when, 0, 1), fine()},
	} {
		name := fmt.Sprintf("case %d", i)
		want(t, name, of(linear.Do(x.p, ups(x.u))), x.want)
		// Whatever the key is, and whatever else the plan has.
		odd := x.p
		odd.N, odd.Kids, odd.Cols, odd.With, odd.Agg, odd.Rounds = -3, make([]api.Plan, 5), []int{-1}, []int{9}, 77, 99
		want(t, name+" in an odd plan", of(linear.Do(odd, ups(keyed(row("key", 1), x.u)))), x.want)
		want(t, name+" of none", of(linear.Do(x.p, nil)), fine())
	}
}

// 11.2: of several updates, those that come to the same are summed, and the first time in the linear order is that of the failure.
func TestDoMany(t *testing.T) {
	big, three := int64(1)<<62, at(3)
	for i, x := range []struct {
		p    api.Plan
		l    []api.Update
		want outcome
	}{
		{mapped(con(0)), ups(up(three, 2, 1), up(at(1), 1, 2), up(three, 5, 3), keyed(row(1), up(at(1), 1, 2))), fine(up(at(1), 2, 0), up(three, 7, 0))},
		{mapped(con(0)), ups(up(three, 2, 1), up(three, -2, 2)), fine()},
		{mapped(con(0)), ups(up(three, 2, 1), up(at(3, 1), -2, 2)), fine(up(three, 2, 0), up(at(3, 1), -2, 0))},
		{mapped(col(0)), ups(up(at(0), 1, "b"), up(at(0), 1, 2), up(at(0), 1, "a"), up(at(0), 1, -2)), fine(up(at(0), 1, -2), up(at(0), 1, 2), up(at(0), 1, "a"), up(at(0), 1, "b"))},
		// Each update fails, also if another one takes it back.
		{more, ups(up(three, 1, greatest), up(three, -1, greatest)), failed(three)},
		{more, ups(up(at(5), 1, greatest), up(at(2, 1, 2), 1, greatest), up(at(2, 1, 1), 4, 4), up(at(2, 2), 1, greatest)), failed(at(2, 1, 2), up(at(2, 1, 1), 4, 5))},
		{more, ups(up(at(2, 0, 2), 1, greatest), up(at(2, 1), 1, greatest)), failed(at(2, 0, 2))},
		{more, ups(up(at(9), 1, 1), up(at(8), 1, "a"), up(at(9), 1, 2)), failed(at(8), up(at(9), 1, 2), up(at(9), 1, 3))},
		{negate, ups(up(at(0), least, 1), up(at(0), 3, 2)), failed(at(0), up(at(0), -3, 2))},
		// A sum that does not fit: all of this row and time is left out, and nothing else.
		{concat, ups(up(three, greatest, 1), up(three, 1, 1), up(three, 1, 2), up(at(4), 1, 1)), failed(three, up(at(4), 1, 1), up(three, 1, 2))},
		{concat, ups(up(three, greatest, 1), keyed(row(5), up(three, 1, 1)), keyed(row(6), up(three, -1, 1))), fine(up(three, greatest, 1))},
		{concat, ups(up(three, least, 1), up(three, -1, 1)), failed(three)},
		{concat, ups(up(at(5), big, 1), up(at(5), big, 1), up(three, big, 2), up(three, big, 2), up(at(4), -big, 2), up(at(4), -big, 2)), failed(three, up(at(4), least, 2))},
		{negate, ups(up(three, big, 1), up(three, big, 1)), fine(up(three, least, 1))},
		{mapped(con(0)), ups(up(three, big, 1), up(three, big, 2), up(three, big, 3)), failed(three)},
		{filter(col(0)), ups(up(three, greatest, 0), up(three, greatest, 0), up(three, 1, 1)), fine(up(three, 1, 1))},
		// Both, in both orders.
		{more, ups(up(at(4), 1, greatest), up(three, big, 1), up(three, big, 1), up(three, 1, 2)), failed(three, up(three, 1, 3))},
		{more, ups(up(at(2), 1, greatest), up(three, big, 1), up(three, big, 1), up(three, 1, 2)), failed(at(2), up(three, 1, 3))},
	} {
		want(t, fmt.Sprintf("case %d", i), of(linear.Do(x.p, x.l)), x.want)
		slices.Reverse(x.l)
		want(t, fmt.Sprintf("case %d from behind", i), of(linear.Do(x.p, x.l)), x.want)
	}
}

// 11.1, 11.2: the error of the updates comes first, then that of the kind.
func TestDoWrong(t *testing.T) {
	for k := range 256 {
		p := api.Plan{Kind: api.PlanKind(k), Exprs: []api.Expr{con(1)}}
		one := k == int(api.PlanMap) || k == int(api.PlanFilter) || k == int(api.PlanConcat) || k == int(api.PlanNegate)
		for _, l := range [][]api.Update{nil, {}, ups(up(at(1), 1, 1)), ends()} {
			if _, _, why := linear.Do(p, l); one != (why == api.OK) {
				t.Errorf("the kind %d: error %d", k, why)
			}
			if !one {
				want(t, fmt.Sprintf("the kind %d", k), of(linear.Do(p, l)), no(api.ErrForm))
			}
		}
		for why, lists := range wrong() {
			for _, l := range lists {
				want(t, fmt.Sprintf("the kind %d for %s", k, show(l)), of(linear.Do(p, l)), no(why))
			}
		}
	}
}

// 11.2
func TestArrange(t *testing.T) {
	u, v := up(at(1), 2, 5, "a"), up(at(0, 3), -1, 5)
	for i, x := range []struct {
		cols []int
		l    []api.Update
		want outcome
	}{
		{nil, nil, fine()},
		{[]int{-1, 99}, nil, fine()},
		{make([]int, maxCols+1), []api.Update{}, fine()},
		{nil, ups(v, u), fine(v, u)},
		{[]int{1, 0, 1}, ups(u), fine(keyed(row("a", 5, "a"), u))},
		{[]int{0}, ups(u, v), fine(keyed(row(5), v), keyed(row(5), u))},
		{make([]int, maxCols), ups(v), fine(keyed(row(5, 5, 5, 5, 5, 5, 5, 5), v))},
		{[]int{1}, ups(up(at(0), 1, 1, 4), up(at(0), 1, 2, 3)), fine(keyed(row(3), up(at(0), 1, 2, 3)), keyed(row(4), up(at(0), 1, 1, 4)))},
		// A key that was there is no more, and what differed by it only is summed.
		{[]int{0}, ups(keyed(row(1), v), keyed(row(2), v)), fine(keyed(row(5), up(at(0, 3), -2, 5)))},
		{nil, ups(keyed(row(1), v), keyed(row(2), up(at(0, 3), 1, 5))), fine()},
		{[]int{0}, ups(up(at(0), 0, 1)), fine()},
		// Of the errors of the columns the first one, update by update; a sum comes behind them all.
		{[]int{1}, ups(v), no(api.ErrRange)},
		{[]int{-1}, ups(u), no(api.ErrRange)},
		{[]int{1}, ups(u, u, v), no(api.ErrRange)},
		{[]int{0}, ups(u, up(at(0), 0)), no(api.ErrRange)},
		{make([]int, maxCols+1), ups(u), no(api.ErrLong)},
		{append(make([]int, maxCols), 1), ups(u, v), no(api.ErrLong)},
		{append(make([]int, maxCols), 1), ups(v, u), no(api.ErrRange)},
		{[]int{0}, ups(up(at(1), greatest, 1), up(at(1), 1, 1), up(at(2), 1, 2)), no(api.ErrOver)},
		{[]int{0}, ups(up(at(1), greatest, 1), up(at(1), 1, 1), up(at(1), -1, 1)), fine(keyed(row(1), up(at(1), greatest, 1)))},
		{[]int{1}, ups(up(at(1), greatest, 1), up(at(1), 1, 1)), no(api.ErrRange)},
		{make([]int, maxCols+1), ups(up(at(1), greatest, 1), up(at(1), 1, 1)), no(api.ErrLong)},
	} {
		want(t, fmt.Sprintf("case %d", i), list(linear.Arrange(x.cols, x.l)), x.want)
	}
	for why, lists := range wrong() {
		for _, l := range lists {
			for _, cols := range [][]int{nil, {-1}, make([]int, maxCols+1)} {
				want(t, fmt.Sprintf("%v of %s", cols, show(l)), list(linear.Arrange(cols, l)), no(why))
			}
		}
	}
}
