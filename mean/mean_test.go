package mean_test

import (
	"fmt"
	"math"
	"slices"
	"strings"
	"testing"

	"freshet/api"
	"freshet/expr"
	"freshet/mean"
)

// The limits are written out, as they are themselves part of what is tested.
const (
	maxCols    = 8
	maxText    = 64
	maxRounds  = 16
	maxSources = 8
)

const (
	greatest = math.MaxInt64
	least    = math.MinInt64
)

const (
	number = api.TypeInt
	text   = api.TypeText
)

func source(n int) api.Plan   { return api.Plan{Kind: api.PlanSource, N: n} }
func variable(n int) api.Plan { return api.Plan{Kind: api.PlanVar, N: n} }

func mapped(kid api.Plan, exprs ...api.Expr) api.Plan {
	return api.Plan{Kind: api.PlanMap, Kids: []api.Plan{kid}, Exprs: exprs}
}

func filter(kid api.Plan, e api.Expr) api.Plan {
	return api.Plan{Kind: api.PlanFilter, Kids: []api.Plan{kid}, Exprs: []api.Expr{e}}
}

func concat(kids ...api.Plan) api.Plan { return api.Plan{Kind: api.PlanConcat, Kids: kids} }
func negate(kid api.Plan) api.Plan     { return api.Plan{Kind: api.PlanNegate, Kids: []api.Plan{kid}} }
func distinct(kid api.Plan) api.Plan   { return api.Plan{Kind: api.PlanDistinct, Kids: []api.Plan{kid}} }

func join(a, b api.Plan, cols, with []int) api.Plan {
	return api.Plan{Kind: api.PlanJoin, Kids: []api.Plan{a, b}, Cols: cols, With: with}
}

func reduce(kid api.Plan, agg api.AggKind, n int, cols ...int) api.Plan {
	return api.Plan{Kind: api.PlanReduce, Kids: []api.Plan{kid}, Agg: agg, N: n, Cols: cols}
}

func iterate(rounds int, a, b api.Plan) api.Plan {
	return api.Plan{Kind: api.PlanIterate, Kids: []api.Plan{a, b}, Rounds: rounds}
}

func col(i int) api.Expr { return api.Expr{Op: api.ExprCol, Col: i} }

func con(x any) api.Expr { return api.Expr{Op: api.ExprConst, Const: row(x)[0]} }

func op(o api.ExprOp, kids ...api.Expr) api.Expr { return api.Expr{Op: o, Kids: kids} }

// row has a number for each integer, and a text for each string.
func row(l ...any) []api.Value {
	var r []api.Value
	for _, x := range l {
		switch x := x.(type) {
		case int:
			r = append(r, api.Value{N: int64(x)})
		case string:
			r = append(r, api.Value{IsText: true, S: x})
		}
	}
	return r
}

func count(n int64, l ...any) api.Count { return api.Count{Row: row(l...), N: n} }

func counts(l ...api.Count) []api.Count { return l }

// example is the source of the document's examples.
func example() []api.Count {
	return counts(count(1, 1, 2), count(2, 2, 3), count(-1, 3, 1))
}

func show(l []api.Count) string {
	var s []string
	for _, c := range l {
		r := ""
		for _, v := range c.Row {
			r += fmt.Sprintf(" %d", v.N)
			if v.IsText || v.S != "" {
				r += fmt.Sprintf("/%t/%q", v.IsText, v.S)
			}
		}
		s = append(s, fmt.Sprintf("(%s ) %d times", r, c.N))
	}
	return "[" + strings.Join(s, ", ") + "]"
}

func equal(a, b []api.Count) bool {
	return slices.EqualFunc(a, b, func(x, y api.Count) bool { return x.N == y.N && slices.Equal(x.Row, y.Row) })
}

// schemasOf is the schemas of the first rows of sources.
func schemasOf(sources [][]api.Count) [][]api.Type {
	var l [][]api.Type
	for _, s := range sources {
		l = append(l, expr.Schema(s[0].Row))
	}
	return l
}

func wantOf(t *testing.T, p api.Plan, sources [][]api.Count, schemas [][]api.Type, want []api.Count, no api.Errno) {
	t.Helper()
	if l, why := mean.Of(p, sources, schemas); !equal(l, want) || why != no {
		t.Errorf("Of %+v: %s, error %d; want %s, error %d", p, show(l), why, show(want), no)
	}
}

// wantIs holds what a plan comes to for sources that have a row each, at least.
func wantIs(t *testing.T, p api.Plan, sources [][]api.Count, want ...api.Count) {
	t.Helper()
	wantOf(t, p, sources, schemasOf(sources), want, api.OK)
}

func wantNo(t *testing.T, p api.Plan, sources [][]api.Count, no api.Errno) {
	t.Helper()
	wantOf(t, p, sources, schemasOf(sources), nil, no)
}

// wrong is lists that are no collections.
func wrong() [][]api.Count {
	long := slices.Repeat(row(1), maxCols+1)
	return [][]api.Count{
		counts(count(1, 2), count(1, 1)), counts(count(1, 1), count(1, 1)), counts(count(1, 1), count(-1, 1)), counts(count(0, 1)), counts(count(0)),
		counts(count(1, 1), count(0, 2)), counts(count(1, "a"), count(1, 1)), counts(count(1, 1, 1), count(1, 1)), counts(count(1, 1), count(1)),
		counts(count(1, 1), count(1, 2), count(1, 2)), counts(count(1, 2), count(1, 3), count(1, 1)), counts(count(1, "b"), count(1, "ab")),
		{{Row: long, N: 1}}, {{Row: []api.Value{{N: 1, S: "x"}}, N: 1}}, {{Row: []api.Value{{IsText: true, N: 1}}, N: 1}},
		counts(count(1, strings.Repeat("x", maxText+1))), counts(count(1, 1), count(1, 2, strings.Repeat("x", maxText+1))),
		append(example(), api.Count{Row: append(row(4), api.Value{S: "x"}), N: 1}),
	}
}

// 10.1
func TestCheck(t *testing.T) {
	for _, l := range [][]api.Count{
		nil, {}, example(), counts(count(1)), counts(count(-1)), counts(count(greatest)), counts(count(least, 1)),
		counts(count(1), count(1, least), count(-5, least, least), count(1, -1), count(1, greatest), count(1, ""), count(2, "", ""), count(2, "a"), count(2, "ab"), count(3, "b")),
		counts(count(1, strings.Repeat("x", maxText))), {{Row: slices.Repeat(row("a"), maxCols), N: 1}},
	} {
		if why := mean.Check(l); why != api.OK {
			t.Errorf("Check of %s: error %d", show(l), why)
		}
	}
	for _, l := range wrong() {
		if why := mean.Check(l); why != api.ErrForm {
			t.Errorf("Check of %s: error %d", show(l), why)
		}
	}
}

// 10.1: the schemas come first, then that each source is a collection, then that it has its schema.
func TestHave(t *testing.T) {
	a := example()
	texts := counts(count(1, 1, ""), count(1, 1, "a"))
	two, mixed := []api.Type{number, number}, []api.Type{number, text}
	type test struct {
		sources [][]api.Count
		schemas [][]api.Type
		no      api.Errno
	}
	l := []test{
		{nil, nil, api.OK},
		{nil, [][]api.Type{}, api.OK},
		{[][]api.Count{a}, [][]api.Type{two}, api.OK},
		{[][]api.Count{a}, [][]api.Type{{number}}, api.ErrType},
		{[][]api.Count{a}, [][]api.Type{{number, number, number}}, api.ErrType},
		{[][]api.Count{a}, [][]api.Type{mixed}, api.ErrType},
		{[][]api.Count{a}, [][]api.Type{nil}, api.ErrType},
		{[][]api.Count{a, texts, nil}, [][]api.Type{two, mixed, {text}}, api.OK},
		{[][]api.Count{texts, a}, [][]api.Type{two, mixed}, api.ErrType},
		{[][]api.Count{a, nil, texts}, [][]api.Type{two, nil, two}, api.ErrType},
		{[][]api.Count{nil, {}}, [][]api.Type{two, nil}, api.OK},
		{[][]api.Count{counts(count(1))}, [][]api.Type{nil}, api.OK},
		{[][]api.Count{counts(count(1))}, [][]api.Type{{number}}, api.ErrType},
		{[][]api.Count{counts(count(1, 1), count(1, 2, 3))}, [][]api.Type{{number}}, api.ErrType},
		{[][]api.Count{counts(count(1, 1), count(1, "a"))}, [][]api.Type{{number}}, api.ErrType},
		{[][]api.Count{counts(count(1, 1), count(1, "a"))}, [][]api.Type{{text}}, api.ErrType},
		// As many sources as schemas.
		{nil, [][]api.Type{nil}, api.ErrType},
		{[][]api.Count{nil}, nil, api.ErrType},
		{[][]api.Count{a}, [][]api.Type{two, two}, api.ErrType},
		{[][]api.Count{a, a}, [][]api.Type{two}, api.ErrType},
		{make([][]api.Count, maxSources), make([][]api.Type, maxSources), api.OK},
		{make([][]api.Count, maxSources+1), make([][]api.Type, maxSources), api.ErrType},
		{make([][]api.Count, maxSources+1), make([][]api.Type, maxSources+1), api.ErrForm},
		{nil, make([][]api.Type, maxSources+1), api.ErrForm},
		{nil, [][]api.Type{{api.TypeNone}}, api.ErrForm},
		{[][]api.Count{a}, [][]api.Type{{number, 3}}, api.ErrForm},
		{[][]api.Count{a}, [][]api.Type{slices.Repeat(two, 5)}, api.ErrForm},
	}
	for _, w := range wrong() {
		l = append(l, test{[][]api.Count{w}, [][]api.Type{{number}}, api.ErrForm}, test{[][]api.Count{a, w}, [][]api.Type{{text}, {number}}, api.ErrForm},
			test{[][]api.Count{a, nil, w}, [][]api.Type{two}, api.ErrForm}, test{[][]api.Count{w, a}, nil, api.ErrForm})
	}
	for _, x := range l {
		if why := mean.Have(x.sources, x.schemas); why != x.no {
			t.Errorf("Have of %d sources for %d: error %d, want %d", len(x.sources), x.schemas, why, x.no)
		}
		// Of answers the same, if the plan has a schema for these.
		if p := mapped(source(0)); len(x.schemas) > 0 && x.no == api.ErrType {
			wantOf(t, p, x.sources, x.schemas, nil, x.no)
		}
	}
}

// 10.2: the errors of the plan come first, then those of the sources, then that of the result.
func TestOfFirst(t *testing.T) {
	huge, pair := counts(count(greatest, 1, 1)), []api.Type{number, number}
	over := concat(source(0), source(0))
	wantOf(t, over, [][]api.Count{huge}, [][]api.Type{pair}, nil, api.ErrOver)
	wantOf(t, over, [][]api.Count{huge, wrong()[0]}, [][]api.Type{pair, {number}}, nil, api.ErrForm)
	wantOf(t, over, [][]api.Count{huge}, [][]api.Type{{number, text}}, nil, api.ErrType)
	wantOf(t, over, [][]api.Count{huge}, [][]api.Type{pair, pair}, nil, api.ErrType)
	wantOf(t, over, [][]api.Count{huge, huge}, [][]api.Type{pair}, nil, api.ErrType)
	wantOf(t, over, [][]api.Count{huge}, nil, nil, api.ErrRange)
	for _, w := range wrong() {
		wantOf(t, source(1), [][]api.Count{w}, [][]api.Type{pair}, nil, api.ErrRange)
		wantOf(t, concat(), [][]api.Count{w}, [][]api.Type{pair}, nil, api.ErrForm)
		wantOf(t, filter(source(0), con("a")), [][]api.Count{w}, [][]api.Type{pair}, nil, api.ErrType)
		wantOf(t, mapped(source(0), slices.Repeat([]api.Expr{col(0)}, 9)...), [][]api.Count{w}, [][]api.Type{pair}, nil, api.ErrLong)
		wantOf(t, source(0), [][]api.Count{w}, [][]api.Type{pair}, nil, api.ErrForm)
		wantOf(t, source(0), [][]api.Count{nil, w}, [][]api.Type{pair}, nil, api.ErrForm)
	}
	wantOf(t, variable(0), [][]api.Count{huge}, [][]api.Type{pair}, nil, api.ErrRange)
	wantOf(t, api.Plan{}, nil, [][]api.Type{{3}}, nil, api.ErrForm)
	// An error of a source that a plan does not ask for is one all the same.
	wantOf(t, source(1), [][]api.Count{wrong()[0], nil}, [][]api.Type{{number}, nil}, nil, api.ErrForm)
	// An iterate that does not end, and a number that does not fit: the first Kid's comes first.
	one := [][]api.Count{counts(count(greatest, 1))}
	fix, too := iterate(3, source(0), negate(variable(0))), concat(source(0), source(0))
	wantNo(t, concat(fix, too), one, api.ErrFix)
	wantNo(t, concat(too, fix), one, api.ErrOver)
	wantNo(t, join(negate(fix), too, nil, nil), one, api.ErrFix)
	wantNo(t, join(negate(too), fix, nil, nil), one, api.ErrOver)
	wantNo(t, iterate(3, fix, too), one, api.ErrFix)
	wantNo(t, iterate(3, too, iterate(3, source(0), negate(variable(0)))), one, api.ErrOver)
}

// 10.2: the document's examples.
func TestExamples(t *testing.T) {
	s := [][]api.Count{example()}
	a := source(0)
	wantIs(t, distinct(a), s, count(1, 1, 2), count(1, 2, 3))
	wantIs(t, reduce(a, api.AggCount, 0), s, count(1, 2))
	wantIs(t, reduce(a, api.AggSum, 1), s, count(1, 7))
	wantIs(t, reduce(a, api.AggMax, 1), s, count(1, 3))
	wantIs(t, reduce(a, api.AggTop, 1), s, count(1, 2, 3))
	wantIs(t, join(a, a, []int{1}, []int{0}), s, count(2, 1, 2, 2, 3), count(-2, 2, 3, 3, 1), count(-1, 3, 1, 1, 2))
	wantNo(t, iterate(3, a, negate(variable(0))), s, api.ErrFix)
	wantNo(t, concat(a, a), [][]api.Count{counts(count(1<<62, 1))}, api.ErrOver)
	wantIs(t, reduce(a, api.AggSum, 0), [][]api.Count{counts(count(2, 1), count(1, 2))}, count(1, 4))
	// Of (1; "a") twice and (1; "b") three times.
	pairs := [][]api.Count{counts(count(2, 1, "a")), counts(count(3, 1, "b"))}
	wantIs(t, join(a, source(1), []int{0}, []int{0}), pairs, count(6, 1, "a", 1, "b"))
}

// 10.2
func TestSources(t *testing.T) {
	s := [][]api.Count{example(), counts(count(least, "a"), count(greatest, "b")), counts(count(-3))}
	for i := range s {
		wantIs(t, source(i), s, s[i]...)
		wantIs(t, concat(source(i)), s, s[i]...)
	}
	wantOf(t, source(0), make([][]api.Count, 1), [][]api.Type{{text}}, nil, api.OK)
}

// 10.2
func TestMaps(t *testing.T) {
	s := [][]api.Count{example(), counts(count(2, least), count(3, -1), count(5, greatest)), counts(count(greatest, 1), count(1, 2), count(-1, 3)), counts(count(4, 1, "a"), count(4, 2, "a"))}
	wantIs(t, mapped(source(0), col(1)), s, count(-1, 1), count(1, 2), count(2, 3))
	wantIs(t, mapped(source(0)), s, count(2))
	wantIs(t, mapped(source(0), con("x"), op(api.ExprLess, col(0), con(3))), s, count(-1, "x", 0), count(3, "x", 1))
	wantIs(t, mapped(source(0), op(api.ExprLess, col(0), con(2)), con(0)), s, count(1, 0, 0), count(1, 1, 0))
	wantIs(t, mapped(source(0), op(api.ExprEqual, col(0), con(1))), [][]api.Count{counts(count(1, 1), count(2, 2), count(-2, 3))}, count(1, 1))
	// A sum that does not fit, and one whose partial sums do not.
	wantIs(t, mapped(source(2)), s, count(greatest))
	wantIs(t, mapped(source(2), op(api.ExprLess, col(0), con(9))), s, count(greatest, 1))
	wantNo(t, mapped(source(2), op(api.ExprLess, col(0), con(3))), s, api.ErrOver)
	// A value that does not fit, whatever the row's multiplicity.
	wantIs(t, mapped(source(1), op(api.ExprNot, col(0))), s, count(10, 0))
	wantNo(t, mapped(source(1), op(api.ExprNeg, col(0))), s, api.ErrOver)
	wantNo(t, mapped(source(1), col(0), op(api.ExprAdd, col(0), con(1))), s, api.ErrOver)
	wantIs(t, mapped(filter(source(1), op(api.ExprLess, con(least), col(0))), op(api.ExprNeg, col(0))), s, count(5, -greatest), count(3, 1))
	wantIs(t, mapped(source(3), col(1), col(1)), s, count(8, "a", "a"))
	wantOf(t, mapped(source(0), op(api.ExprNeg, con(least))), [][]api.Count{nil}, [][]api.Type{nil}, nil, api.OK)
}

// 10.2
func TestFilters(t *testing.T) {
	s := [][]api.Count{example(), counts(count(2, least), count(-3, 0), count(5, greatest))}
	wantIs(t, filter(source(0), op(api.ExprLess, col(1), con(3))), s, count(1, 1, 2), count(-1, 3, 1))
	wantIs(t, filter(source(0), con(-1)), s, example()...)
	wantIs(t, filter(source(0), con(0)), s)
	wantIs(t, filter(source(1), col(0)), s, count(2, least), count(5, greatest))
	wantIs(t, filter(source(1), op(api.ExprNot, col(0))), s, count(-3, 0))
	wantNo(t, filter(source(1), op(api.ExprSub, col(0), con(1))), s, api.ErrOver)
	wantNo(t, filter(source(1), op(api.ExprAdd, col(0), con(1))), s, api.ErrOver)
	wantIs(t, filter(source(1), op(api.ExprIf, op(api.ExprLess, col(0), con(1)), con(0), op(api.ExprSub, col(0), con(1)))), s, count(5, greatest))
}

// 10.2
func TestConcats(t *testing.T) {
	s := [][]api.Count{counts(count(greatest, 1), count(1, 2)), counts(count(1, 1), count(2, 3)), counts(count(least, 1), count(-1, 2)), counts(count(-1, 1))}
	a, b, c, d := source(0), source(1), source(2), source(3)
	wantIs(t, concat(b, d), s, count(2, 3))
	wantIs(t, concat(b, b, b), s, count(3, 1), count(6, 3))
	wantNo(t, concat(a, b), s, api.ErrOver)
	wantNo(t, concat(c, d), s, api.ErrOver)
	// Only the final sum must fit.
	wantIs(t, concat(a, b, d), s, count(greatest, 1), count(1, 2), count(2, 3))
	wantIs(t, concat(a, a, c, c, b, b, b), s, count(1, 1), count(6, 3))
	wantIs(t, concat(a, c), s, count(-1, 1))
	// But that of each plan.
	wantNo(t, concat(concat(a, b), d), s, api.ErrOver)
	wantNo(t, concat(d, concat(c, c)), s, api.ErrOver)
}

// 10.2, 10.5
func TestNegates(t *testing.T) {
	s := [][]api.Count{example(), counts(count(greatest, 1), count(-greatest, 2)), counts(count(1, 1), count(least, 2))}
	wantIs(t, negate(source(0)), s, count(-1, 1, 2), count(-2, 2, 3), count(1, 3, 1))
	wantIs(t, negate(source(1)), s, count(-greatest, 1), count(greatest, 2))
	wantNo(t, negate(source(2)), s, api.ErrOver)
	wantNo(t, negate(negate(source(2))), s, api.ErrOver)
	for i, p := range []api.Plan{source(0), source(1)} {
		wantIs(t, negate(negate(p)), s, s[i]...)
		wantIs(t, concat(p, negate(p)), s)
		wantIs(t, concat(negate(p), p), s)
	}
}

// 10.2
func TestJoins(t *testing.T) {
	a := counts(count(1, 1, "a"), count(2, 1, "b"), count(-3, 2, "a"))
	b := counts(count(5, "a", 1), count(7, "a", 2), count(-1, "c", 1))
	s := [][]api.Count{a, b, counts(count(1<<31, 1), count(-1<<31, 2)), counts(count(1<<32, 1)), counts(count(least, 1)), counts(count(-1, 1))}
	on := func(i, j int, cols, with []int) api.Plan { return join(source(i), source(j), cols, with) }
	wantIs(t, on(0, 1, []int{1}, []int{0}), s,
		count(5, 1, "a", "a", 1), count(7, 1, "a", "a", 2), count(-15, 2, "a", "a", 1), count(-21, 2, "a", "a", 2))
	wantIs(t, on(0, 1, []int{0, 1}, []int{1, 0}), s, count(5, 1, "a", "a", 1), count(-21, 2, "a", "a", 2))
	wantIs(t, on(0, 1, []int{1, 0, 1}, []int{0, 1, 0}), s, count(5, 1, "a", "a", 1), count(-21, 2, "a", "a", 2))
	wantIs(t, on(1, 0, []int{1}, []int{0}), s,
		count(5, "a", 1, 1, "a"), count(10, "a", 1, 1, "b"), count(-21, "a", 2, 2, "a"), count(-1, "c", 1, 1, "a"), count(-2, "c", 1, 1, "b"))
	// Without columns, and with more than a row may have, all pairs match.
	for n := range 40 {
		if n > 0 && n <= maxCols {
			continue
		}
		wantIs(t, on(2, 5, make([]int, n), make([]int, n)), s, count(-1<<31, 1, 1), count(1<<31, 2, 1))
		wantIs(t, on(0, 2, make([]int, n), make([]int, n)), s,
			count(1<<31, 1, "a", 1), count(-1<<31, 1, "a", 2), count(1<<32, 1, "b", 1), count(-1<<32, 1, "b", 2), count(-3<<31, 2, "a", 1), count(3<<31, 2, "a", 2))
	}
	wantIs(t, on(2, 5, make([]int, maxCols), make([]int, maxCols)), s, count(-1<<31, 1, 1))
	// Products that do not fit, also of rows that cancel each other afterwards; what does not match is not multiplied.
	wantNo(t, on(2, 3, nil, nil), s, api.ErrOver)
	wantNo(t, on(3, 2, []int{0}, []int{0}), s, api.ErrOver)
	wantNo(t, on(4, 5, nil, nil), s, api.ErrOver)
	wantNo(t, on(4, 4, nil, nil), s, api.ErrOver)
	wantIs(t, join(source(3), filter(source(2), op(api.ExprEqual, col(0), con(2))), nil, nil), s, count(least, 1, 2))
	wantIs(t, join(source(3), filter(source(2), op(api.ExprEqual, col(0), con(2))), []int{0}, []int{0}), s)
	wantIs(t, join(source(4), negate(source(5)), nil, nil), s, count(least, 1, 1))
	wantIs(t, join(filter(source(0), con(0)), source(1), nil, nil), s)
	wantIs(t, join(source(0), filter(source(1), con(0)), nil, nil), s)
	// Texts and numbers of the same look are not the same.
	mixed := [][]api.Count{counts(count(1, 0, ""), count(1, 0, "0"), count(1, 49, "1")), counts(count(1, "", ""), count(1, "0", "1"))}
	wantIs(t, join(source(0), source(1), []int{1}, []int{0}), mixed, count(1, 0, "", "", ""), count(1, 0, "0", "0", "1"))
	wantIs(t, join(source(0), source(1), []int{1, 1}, []int{0, 1}), mixed, count(1, 0, "", "", ""))
	// Two texts as one key do not run into each other.
	wide := [][]api.Count{counts(count(1, "a", "bc"), count(1, "ab", "c"))}
	wantIs(t, join(source(0), source(0), []int{0, 1}, []int{0, 1}), wide, count(1, "a", "bc", "a", "bc"), count(1, "ab", "c", "ab", "c"))
	// As wide as rows may be.
	four := [][]api.Count{counts(count(3, 1, 2, 3, 4))}
	wantIs(t, join(source(0), source(0), nil, nil), four, count(9, 1, 2, 3, 4, 1, 2, 3, 4))
}

// 10.2
func TestReduces(t *testing.T) {
	a := counts(count(2, 1, "a", 5), count(-2, 1, "a", 6), count(1, 1, "b", -7), count(-4, 2, "a", 9), count(3, 3, "a", 0), count(1, 3, "a", 9), count(1, 3, "c", 9))
	s := [][]api.Count{a}
	r := func(agg api.AggKind, n int, cols ...int) api.Plan { return reduce(source(0), agg, n, cols...) }
	wantIs(t, r(api.AggCount, 0), s, count(1, 2))
	// A group whose rows come to 0 is still there.
	wantIs(t, r(api.AggCount, 0, 0, 1), s, count(1, 1, "a", 0), count(1, 1, "b", 1), count(1, 2, "a", -4), count(1, 3, "a", 4), count(1, 3, "c", 1))
	wantIs(t, r(api.AggCount, 0, 1), s, count(1, "a", 0), count(1, "b", 1), count(1, "c", 1))
	wantIs(t, r(api.AggCount, 0, 1, 1), s, count(1, "a", "a", 0), count(1, "b", "b", 1), count(1, "c", "c", 1))
	wantIs(t, r(api.AggCount, 0, 0), s, count(1, 1, 1), count(1, 2, -4), count(1, 3, 5))
	wantIs(t, r(api.AggSum, 2), s, count(1, -27))
	wantIs(t, r(api.AggSum, 2, 0), s, count(1, 1, -9), count(1, 2, -36), count(1, 3, 18))
	wantIs(t, r(api.AggSum, 2, 1, 0), s, count(1, "a", 1, -2), count(1, "a", 2, -36), count(1, "a", 3, 9), count(1, "b", 1, -7), count(1, "c", 3, 9))
	wantIs(t, r(api.AggSum, 0, 0), s, count(1, 1, 1), count(1, 2, -8), count(1, 3, 15))
	// Only rows that are there count; a group without any has no result.
	wantIs(t, r(api.AggMin, 2), s, count(1, -7))
	wantIs(t, r(api.AggMax, 2), s, count(1, 9))
	wantIs(t, r(api.AggMin, 2, 0), s, count(1, 1, -7), count(1, 3, 0))
	wantIs(t, r(api.AggMax, 2, 0), s, count(1, 1, 5), count(1, 3, 9))
	wantIs(t, r(api.AggMax, 2, 0, 1), s, count(1, 1, "a", 5), count(1, 1, "b", -7), count(1, 3, "a", 9), count(1, 3, "c", 9))
	wantIs(t, r(api.AggMin, 1), s, count(1, "a"))
	wantIs(t, r(api.AggMax, 1), s, count(1, "c"))
	wantIs(t, r(api.AggMax, 1, 0), s, count(1, 1, "b"), count(1, 3, "c"))
	wantIs(t, r(api.AggMin, 0, 2), s, count(1, -7, 1), count(1, 0, 3), count(1, 5, 1), count(1, 9, 3))
	wantIs(t, r(api.AggTop, 1), s, count(1, 3, "c", 9))
	wantIs(t, r(api.AggTop, 3), s, count(1, 3, "a", 0), count(1, 3, "a", 9), count(1, 3, "c", 9))
	wantIs(t, r(api.AggTop, 8), s, count(1, 1, "a", 5), count(1, 1, "b", -7), count(1, 3, "a", 0), count(1, 3, "a", 9), count(1, 3, "c", 9))
	wantIs(t, r(api.AggTop, 1, 0), s, count(1, 1, "b", -7), count(1, 3, "c", 9))
	wantIs(t, r(api.AggTop, 2, 1), s, count(1, 1, "b", -7), count(1, 3, "a", 0), count(1, 3, "a", 9), count(1, 3, "c", 9))
	wantIs(t, r(api.AggTop, 8, 0, 1, 2, 2, 1, 0, 0, 1), s, count(1, 1, "a", 5), count(1, 1, "b", -7), count(1, 3, "a", 0), count(1, 3, "a", 9), count(1, 3, "c", 9))
	// With more columns than a row may have, all are one group.
	wantIs(t, r(api.AggTop, 1, 0, 1, 2, 2, 1, 0, 0, 1), s, count(1, 1, "a", 5), count(1, 1, "b", -7), count(1, 3, "a", 0), count(1, 3, "a", 9), count(1, 3, "c", 9))
	wantIs(t, r(api.AggTop, 1, 0, 1, 2, 2, 1, 0, 0, 1, 0), s, count(1, 3, "c", 9))
	wantIs(t, r(api.AggTop, 2, make([]int, 99)...), s, count(1, 3, "a", 9), count(1, 3, "c", 9))
	for _, agg := range []api.AggKind{api.AggMin, api.AggMax, api.AggTop} {
		wantIs(t, reduce(filter(source(0), op(api.ExprEqual, col(0), con(2))), agg, 1), s)
	}
	// Without rows there is no group, not even without columns.
	for agg := api.AggCount; agg <= api.AggTop; agg++ {
		for _, cols := range [][]int{nil, {0}} {
			p := reduce(source(0), agg, 1, cols...)
			if agg == api.AggCount {
				p.N = 0
			}
			wantOf(t, p, [][]api.Count{nil}, [][]api.Type{{number, number}}, nil, api.OK)
		}
	}
	// As wide as rows may be.
	seven := [][]api.Count{counts(count(2, 1, 2, 3, 4, 5, 6, 7))}
	wantIs(t, reduce(source(0), api.AggCount, 0, 6, 5, 4, 3, 2, 1, 0), seven, count(1, 7, 6, 5, 4, 3, 2, 1, 2))
	wantIs(t, reduce(source(0), api.AggMin, 6, 6, 5, 4, 3, 2, 1, 0), seven, count(1, 7, 6, 5, 4, 3, 2, 1, 7))
}

// 10.2: sums that do not fit, and those whose partial sums do not.
func TestReduceOver(t *testing.T) {
	for _, x := range []struct {
		agg  api.AggKind
		l    []api.Count
		want int
		no   api.Errno
	}{
		{api.AggCount, counts(count(greatest, 1, 1), count(1, 1, 2)), 0, api.ErrOver},
		{api.AggCount, counts(count(least, 1, 1), count(-1, 1, 2)), 0, api.ErrOver},
		{api.AggCount, counts(count(greatest, 1, 1), count(1, 1, 2), count(-1, 1, 3)), greatest, api.OK},
		{api.AggCount, counts(count(greatest, 1, 1), count(greatest, 1, 2), count(least, 1, 3), count(least, 1, 4), count(2, 1, 5)), 0, api.OK},
		{api.AggCount, counts(count(least, 1, 1)), least, api.OK},
		{api.AggSum, counts(count(1, 1, greatest)), greatest, api.OK},
		{api.AggSum, counts(count(2, 1, greatest)), 0, api.ErrOver},
		{api.AggSum, counts(count(-1, 1, least)), 0, api.ErrOver},
		{api.AggSum, counts(count(least, 1, 1)), least, api.OK},
		{api.AggSum, counts(count(least, 1, -1)), 0, api.ErrOver},
		{api.AggSum, counts(count(greatest, 1, 0), count(least, 1, 1), count(greatest, 1, 2)), 0, api.ErrOver},
		{api.AggSum, counts(count(1<<62, 1, -2), count(1<<62, 1, -1), count(1, 1, 3)), 0, api.ErrOver},
		{api.AggSum, counts(count(1<<62, 1, -2), count(1<<62, 1, -1), count(1<<62, 1, 1), count(1, 1, 3)), least + 3, api.OK},
		{api.AggSum, counts(count(1<<62, 1, -2), count(1<<62, 1, -1), count(3, 1, 1), count(1, 1, 1<<62)), least + 3, api.OK},
		{api.AggSum, counts(count(1, 1, 1<<62), count(1, 1, greatest)), 0, api.ErrOver},
		{api.AggSum, counts(count(-1, 1, 1), count(1, 1, 1<<62), count(1, 1, 1<<62+1)), 0, api.ErrOver},
		{api.AggSum, counts(count(1, 1, -2), count(1, 1, 1<<62), count(1, 1, 1<<62+1)), greatest, api.OK},
		// Multiplicities that do not fit do not matter to these.
		{api.AggMax, counts(count(greatest, 1, 1), count(greatest, 1, 2)), 2, api.OK},
		{api.AggMin, counts(count(greatest, 1, 1), count(greatest, 1, 2)), 1, api.OK},
	} {
		p := reduce(source(0), x.agg, 1)
		if x.agg == api.AggCount {
			p.N = 0
		}
		s := [][]api.Count{x.l}
		if x.no != api.OK {
			wantNo(t, p, s, x.no)
			p.Cols = []int{0}
			wantNo(t, p, s, x.no)
			continue
		}
		wantIs(t, p, s, count(1, x.want))
		p.Cols = []int{0}
		wantIs(t, p, s, count(1, 1, x.want))
	}
	// One group whose number does not fit is enough.
	s := [][]api.Count{counts(count(1, 1, 1), count(2, 2, greatest), count(1, 3, 1))}
	wantNo(t, reduce(source(0), api.AggSum, 1, 0), s, api.ErrOver)
	wantIs(t, reduce(source(0), api.AggTop, 8), [][]api.Count{counts(count(greatest, 1), count(greatest, 2))}, count(1, 1), count(1, 2))
}

// 10.2, 10.5
func TestDistincts(t *testing.T) {
	s := [][]api.Count{example(), counts(count(greatest, 1), count(least, 2), count(-1, 3), count(1, 4)), counts(count(-1, 1))}
	wantIs(t, distinct(source(1)), s, count(1, 1), count(1, 4))
	wantIs(t, distinct(distinct(source(1))), s, count(1, 1), count(1, 4))
	wantIs(t, distinct(negate(source(0))), s, count(1, 3, 1))
	wantIs(t, distinct(source(2)), s)
	wantIs(t, distinct(negate(source(2))), s, count(1, 1))
}

// reach is the plan of what is reached from the pairs of source 0 along the pairs of source 1.
func reach(rounds int) api.Plan {
	step := mapped(join(variable(0), source(1), []int{1}, []int{0}), col(0), col(3))
	return iterate(rounds, source(0), distinct(concat(variable(0), step)))
}

// 10.2
func TestIterates(t *testing.T) {
	chain := counts(count(1, 1, 2), count(1, 2, 3), count(1, 3, 4), count(1, 4, 5))
	s := [][]api.Count{counts(count(1, 1, 1)), append(counts(count(1, 1, 1)), chain...)}
	all := counts(count(1, 1, 1), count(1, 1, 2), count(1, 1, 3), count(1, 1, 4), count(1, 1, 5))
	// Four rounds find all, and the fifth one finds nothing new.
	for rounds := 1; rounds <= maxRounds; rounds++ {
		if rounds < 5 {
			wantNo(t, reach(rounds), s, api.ErrFix)
		} else {
			wantIs(t, reach(rounds), s, all...)
		}
	}
	n := [][]api.Count{counts(count(1, 8), count(3, 9))}
	a, v := source(0), variable(0)
	for _, rounds := range []int{1, 2, 3, maxRounds} {
		wantIs(t, iterate(rounds, a, v), n, n[0]...)
		wantIs(t, iterate(rounds, a, a), n, n[0]...)
		wantNo(t, iterate(rounds, a, negate(v)), n, api.ErrFix)
		wantIs(t, iterate(rounds, filter(a, con(0)), negate(v)), n)
		wantIs(t, concat(iterate(rounds, a, v), a), n, count(2, 8), count(6, 9))
	}
	// What differs from the first one, but not any more then.
	wantNo(t, iterate(1, a, distinct(v)), n, api.ErrFix)
	wantIs(t, iterate(2, a, distinct(v)), n, count(1, 8), count(1, 9))
	wantNo(t, iterate(1, a, filter(a, con(0))), n, api.ErrFix)
	wantIs(t, iterate(2, a, filter(a, con(0))), n)
	// Counting down to 0 takes nine rounds, and one more that finds the same.
	down := mapped(v, op(api.ExprIf, col(0), op(api.ExprSub, col(0), con(1)), con(0)))
	wantNo(t, iterate(9, a, down), n, api.ErrFix)
	wantIs(t, iterate(10, a, down), n, count(4, 0))
	// The same rows, but not as often.
	wantNo(t, iterate(maxRounds, a, concat(v, v)), n, api.ErrFix)
	wantNo(t, iterate(maxRounds, a, concat(v, v, v, v, v, v, v, v, v, v, v, v, v, v, v, v, v)), n, api.ErrOver)
	// The same number of rows, each as often, but others.
	wantNo(t, iterate(maxRounds, a, mapped(v, op(api.ExprAdd, col(0), con(1)))), n, api.ErrFix)
	wantNo(t, iterate(3, a, mapped(v, op(api.ExprAdd, col(0), con(greatest-9)))), n, api.ErrOver)
}

// 10.2: loops within loops: the nearest one is the variable 0.
func TestLoops(t *testing.T) {
	s := [][]api.Count{counts(count(1, 1), count(2, 5)), counts(count(1, 0))}
	a, b := source(0), source(1)
	limit := func(v, to api.Plan) api.Plan {
		return mapped(join(v, reduce(to, api.AggMax, 0), nil, nil), op(api.ExprIf, op(api.ExprLess, col(0), col(1)), op(api.ExprAdd, col(0), con(1)), col(0)))
	}
	wantIs(t, iterate(6, b, limit(variable(0), a)), s, count(1, 5))
	wantNo(t, iterate(5, b, limit(variable(0), a)), s, api.ErrFix)
	// The inner loop counts up to the outer one's variable, anew in each round of it.
	inner := iterate(6, b, limit(variable(0), variable(1)))
	wantIs(t, iterate(3, a, concat(variable(0), inner, negate(inner))), s, s[0]...)
	wantIs(t, iterate(2, a, inner), s, count(1, 5))
	wantNo(t, iterate(1, a, inner), s, api.ErrFix)
	wantNo(t, iterate(3, a, iterate(5, b, limit(variable(0), variable(1)))), s, api.ErrFix)
	// The inner loop has the outer one's variable at first.
	wantIs(t, iterate(3, b, iterate(6, variable(0), limit(variable(0), a))), s, count(1, 5))
	wantIs(t, iterate(2, a, iterate(2, variable(0), distinct(variable(0)))), s, count(1, 1), count(1, 5))
	// The first Kid of an inner loop is not within it.
	wantIs(t, iterate(2, iterate(2, a, distinct(variable(0))), variable(0)), s, count(1, 1), count(1, 5))
	// Behind an inner loop, the variable 0 is the outer one again.
	wantIs(t, iterate(3, a, distinct(concat(iterate(2, b, variable(0)), variable(0)))), s, count(1, 0), count(1, 1), count(1, 5))
}

// What linear asks of expressions over a row: their values, and whether all are numbers other than 0.
func TestValues(t *testing.T) {
	r := row(3, "a", 0)
	nine := slices.Repeat([]api.Expr{col(1)}, maxCols+1)
	for i, x := range []struct {
		exprs []api.Expr
		want  []api.Value
		holds bool
		no    api.Errno
	}{
		{nil, nil, true, api.OK},
		{[]api.Expr{col(0)}, row(3), true, api.OK},
		{[]api.Expr{col(1), con(4), col(0)}, row("a", 4, 3), false, api.OK},
		{[]api.Expr{col(0), col(2)}, row(3, 0), false, api.OK},
		{[]api.Expr{con(-1), con(1)}, row(-1, 1), true, api.OK},
		{[]api.Expr{con("")}, row(""), false, api.OK},
		{[]api.Expr{col(2), col(3), op(api.ExprNeg, col(1))}, nil, false, api.ErrRange},
		{[]api.Expr{op(api.ExprNeg, col(1)), col(3)}, nil, false, api.ErrType},
		{[]api.Expr{{}}, nil, false, api.ErrForm},
		{[]api.Expr{op(api.ExprMul, con(greatest), col(0))}, nil, false, api.ErrOver},
		{nine[1:], row("a", "a", "a", "a", "a", "a", "a", "a"), false, api.OK},
		{nine, nil, false, api.ErrForm},
	} {
		l, why := mean.Values(x.exprs, r)
		holds, no := mean.Holds(x.exprs, r)
		if !slices.Equal(l, x.want) || holds != x.holds || why != x.no || no != x.no {
			t.Errorf("case %d: %v and %t, errors %d and %d", i, l, holds, why, no)
		}
	}
}

// What group asks of a group of rows: its result by a plan, with a key.
func TestGroup(t *testing.T) {
	l := counts(count(-1, 1, "a"), count(2, 1, "b"), count(3, 2, "a"), count(1, 4, ""))
	long, most := slices.Repeat(row(0), maxCols), slices.Repeat(row(0), maxCols-1)
	agg := func(agg api.AggKind, n int) api.Plan { return api.Plan{Kind: api.PlanReduce, Agg: agg, N: n} }
	plain := api.Plan{Kind: api.PlanDistinct}
	for i, x := range []struct {
		plan api.Plan
		key  []api.Value
		l    []api.Count
		want []api.Count
		no   api.Errno
	}{
		{agg(api.AggCount, 9), row("k"), l, counts(count(1, "k", 5)), api.OK},
		{agg(api.AggSum, 0), nil, l, counts(count(1, 11)), api.OK},
		{agg(api.AggMin, 1), row(7, 8), l, counts(count(1, 7, 8, "")), api.OK},
		{agg(api.AggMax, 1), row(7), l, counts(count(1, 7, "b")), api.OK},
		{agg(api.AggMin, 0), nil, l[:1], nil, api.OK},
		{agg(api.AggTop, 1), row(7), l, counts(count(1, 4, "")), api.OK},
		{agg(api.AggTop, 8), row(7), l, counts(count(1, 1, "b"), count(1, 2, "a"), count(1, 4, "")), api.OK},
		{plain, row(7), l, counts(count(1, 1, "b"), count(1, 2, "a"), count(1, 4, "")), api.OK},
		{agg(api.AggSum, 0), nil, counts(count(greatest, 2)), nil, api.ErrOver},
		{agg(api.AggSum, 1), nil, l, nil, api.ErrForm},
		{agg(api.AggMin, 2), nil, l, nil, api.ErrForm},
		{agg(api.AggMax, -1), nil, l, nil, api.ErrForm},
		{agg(api.AggSum, 0), nil, append(l, api.Count{N: 1}), nil, api.ErrForm},
		{agg(api.AggTop, 0), nil, l, nil, api.ErrForm},
		{agg(api.AggTop, 9), nil, l, nil, api.ErrForm},
		{agg(api.AggNone, 0), nil, l, nil, api.ErrForm},
		{agg(api.AggCountKinds, 1), nil, nil, nil, api.ErrForm},
		{source(0), nil, l, nil, api.ErrForm},
		{agg(api.AggCount, 0), most, l[:1], []api.Count{{Row: append(most, row(-1)...), N: 1}}, api.OK},
		{agg(api.AggCount, 0), long, l, nil, api.ErrLong},
		{agg(api.AggMin, 0), long, l[:1], nil, api.ErrLong},
		{agg(api.AggTop, 1), long, l, counts(count(1, 4, "")), api.OK},
		{plain, long, l[:2], counts(count(1, 1, "b")), api.OK},
	} {
		got, why := mean.Group(x.plan, x.key, x.l)
		if !equal(got, x.want) || why != x.no {
			t.Errorf("case %d: %s, error %d; want %s, error %d", i, show(got), why, show(x.want), x.no)
		}
		fits := mean.Tells(x.plan) && !slices.ContainsFunc(x.l, func(c api.Count) bool { return !mean.Fits(x.plan, c.Row) })
		if fits != (x.no != api.ErrForm) {
			t.Errorf("case %d: %t", i, fits)
		}
		for _, c := range got {
			spoil(c.Row)
		}
	}
	if !equal(l, counts(count(-1, 1, "a"), count(2, 1, "b"), count(3, 2, "a"), count(1, 4, ""))) {
		t.Errorf("changed: %s", show(l))
	}
}
