package expr_test

import (
	"math"
	"runtime"
	"slices"
	"strconv"
	"strings"
	"testing"

	"freshet/api"
	"freshet/expr"
	"freshet/value"
)

// The limits are written out, as they are themselves part of what is tested.
const (
	maxCols  = 8
	maxText  = 64
	maxDepth = 16
	maxNodes = 64
)

// greatest and least are the numbers at the ends.
const (
	greatest = math.MaxInt64
	least    = math.MinInt64
)

// val is a number of an integer, and a text of a string.
func val(x any) api.Value {
	switch x := x.(type) {
	case int:
		return api.Value{N: int64(x)}
	case string:
		return api.Value{IsText: true, S: x}
	}
	panic("no value")
}

func row(l ...any) []api.Value {
	var r []api.Value
	for _, x := range l {
		r = append(r, val(x))
	}
	return r
}

// example is the row of the document's examples.
func example() []api.Value {
	return row(3, -2, "a")
}

func op(o api.ExprOp, kids ...api.Expr) api.Expr {
	return api.Expr{Op: o, Kids: kids}
}

func col(i int) api.Expr {
	return api.Expr{Op: api.ExprCol, Col: i}
}

func con(x any) api.Expr {
	return api.Expr{Op: api.ExprConst, Const: val(x)}
}

func add(a, b api.Expr) api.Expr   { return op(api.ExprAdd, a, b) }
func sub(a, b api.Expr) api.Expr   { return op(api.ExprSub, a, b) }
func mul(a, b api.Expr) api.Expr   { return op(api.ExprMul, a, b) }
func neg(a api.Expr) api.Expr      { return op(api.ExprNeg, a) }
func less(a, b api.Expr) api.Expr  { return op(api.ExprLess, a, b) }
func equal(a, b api.Expr) api.Expr { return op(api.ExprEqual, a, b) }
func and(a, b api.Expr) api.Expr   { return op(api.ExprAnd, a, b) }
func or(a, b api.Expr) api.Expr    { return op(api.ExprOr, a, b) }
func not(a api.Expr) api.Expr      { return op(api.ExprNot, a) }

func when(a, b, c api.Expr) api.Expr { return op(api.ExprIf, a, b, c) }

// nots is an expression within so many others.
func nots(n int, e api.Expr) api.Expr {
	for range n {
		e = not(e)
	}
	return e
}

// arity is the number of Kids of all operators.
func arity() map[api.ExprOp]int {
	return map[api.ExprOp]int{
		api.ExprCol: 0, api.ExprConst: 0, api.ExprNeg: 1, api.ExprNot: 1,
		api.ExprAdd: 2, api.ExprSub: 2, api.ExprMul: 2, api.ExprLess: 2, api.ExprEqual: 2, api.ExprAnd: 2, api.ExprOr: 2,
		api.ExprIf: 3,
	}
}

func showValue(v api.Value) string {
	s := strconv.FormatInt(v.N, 10)
	if v.IsText || v.S != "" {
		s += strconv.FormatBool(v.IsText) + strconv.Quote(v.S)
	}
	return s
}

func showExpr(e api.Expr) string {
	s := "op " + strconv.Itoa(int(e.Op))
	switch {
	case e.Op == api.ExprCol:
		s = "col"
	case e.Op == api.ExprConst:
		s = "const"
	}
	if e.Col != 0 || e.Op == api.ExprCol {
		s += " " + strconv.Itoa(e.Col)
	}
	if e.Const != (api.Value{}) || e.Op == api.ExprConst {
		s += " " + showValue(e.Const)
	}
	if len(e.Kids) == 0 {
		return s
	}
	var l []string
	for _, k := range e.Kids {
		l = append(l, showExpr(k))
	}
	return s + "(" + strings.Join(l, ", ") + ")"
}

func showRow(r []api.Value) string {
	var l []string
	for _, v := range r {
		l = append(l, showValue(v))
	}
	return "(" + strings.Join(l, "; ") + ")"
}

func wantType(t *testing.T, e api.Expr, schema []api.Type, want api.Type, no api.Errno) {
	t.Helper()
	if x, why := expr.Infer(e, schema); x != want || why != no {
		t.Errorf("Infer of %s for %d: %d, error %d; want %d, error %d", showExpr(e), schema, x, why, want, no)
	}
}

func wantValue(t *testing.T, e api.Expr, r []api.Value, want api.Value, no api.Errno) {
	t.Helper()
	if x, why := expr.Eval(e, r); x != want || why != no {
		t.Errorf("Eval of %s for %s: %s, error %d; want %s, error %d", showExpr(e), showRow(r), showValue(x), why, showValue(want), no)
	}
}

// wantNo holds what Check answers, and that the others answer it, too, whatever the schema and the row.
func wantNo(t *testing.T, e api.Expr, no api.Errno) {
	t.Helper()
	if why := expr.Check(e); why != no {
		t.Errorf("Check: error %d, want %d", why, no)
	}
	if no == api.OK {
		return
	}
	for _, schema := range [][]api.Type{nil, {api.TypeInt, api.TypeText}, {77}} {
		if x, why := expr.Infer(e, schema); x != api.TypeNone || why != no {
			t.Errorf("Infer: %d, error %d, want %d", x, why, no)
		}
	}
	for _, r := range [][]api.Value{nil, example(), make([]api.Value, maxCols+1), {{N: 1, S: "x"}}} {
		if x, why := expr.Eval(e, r); x != (api.Value{}) || why != no {
			t.Errorf("Eval: %s, error %d, want %d", showValue(x), why, no)
		}
	}
}

// malformed is expressions of which each is wrong in one way.
func malformed() []api.Expr {
	l := []api.Expr{
		{}, op(api.ExprNone, con(1)), op(api.ExprCount), op(api.ExprCount, con(1), con(1)), op(255), op(255, con(1)),
		{Op: api.ExprConst, Const: api.Value{N: 1, S: "x"}}, {Op: api.ExprConst, Const: api.Value{S: "x"}}, {Op: api.ExprConst, Const: api.Value{IsText: true, N: 1}}, con(strings.Repeat("x", maxText+1)),
	}
	for o, n := range arity() {
		for k := range 6 {
			if k != n {
				l = append(l, op(o, slices.Repeat([]api.Expr{con(1)}, k)...))
			}
		}
		kids := slices.Repeat([]api.Expr{con(1)}, n)
		for _, c := range []int{1, -1, 99, math.MinInt} {
			if o != api.ExprCol {
				l = append(l, api.Expr{Op: o, Kids: kids, Col: c})
			}
		}
		for _, v := range []api.Value{{N: 1}, {N: least}, {IsText: true}, {S: "x"}, {IsText: true, S: "x"}} {
			if o != api.ExprConst {
				l = append(l, api.Expr{Op: o, Kids: kids, Const: v})
			}
		}
	}
	return l
}

// 8.1, P1
func TestCheck(t *testing.T) {
	for o, n := range arity() {
		wantNo(t, op(o, slices.Repeat([]api.Expr{con(1)}, n)...), api.OK)
		wantNo(t, op(o, slices.Repeat([]api.Expr{col(-1)}, n)...), api.OK)
	}
	for _, e := range []api.Expr{
		con(0), con(greatest), con(least), con(""), con(strings.Repeat("\xff", maxText)), col(0), col(7), col(8), col(-5), col(math.MinInt), col(math.MaxInt),
		{Op: api.ExprCol, Kids: []api.Expr{}}, add(con("a"), con("b")), neg(con("a")), when(con("a"), con(1), con("b")),
	} {
		wantNo(t, e, api.OK)
	}
	for _, m := range malformed() {
		wantNo(t, m, api.ErrForm)
		for o, n := range arity() {
			for i := range n {
				kids := slices.Repeat([]api.Expr{con(1)}, n)
				kids[i] = m
				wantNo(t, op(o, kids...), api.ErrForm)
			}
		}
	}
	wantNo(t, op(api.ExprNot), api.ErrForm)
}

// full is an expression of 2 times n plus 1 expressions.
func full(n int) api.Expr {
	if n == 0 {
		return col(0)
	}
	return add(full(n/2), full(n-1-n/2))
}

// 8.1: the bounds themselves, and one beyond.
func TestBounds(t *testing.T) {
	wantNo(t, nots(maxDepth-1, con(1)), api.OK)
	wantNo(t, nots(maxDepth, con(1)), api.ErrLong)
	wantNo(t, nots(99, con(1)), api.ErrLong)
	wantNo(t, when(con(1), nots(maxDepth-2, con(1)), con(1)), api.OK)
	wantNo(t, when(con(1), nots(maxDepth-1, con(1)), con(1)), api.ErrLong)
	wantNo(t, when(con(1), con(1), nots(maxDepth-1, con(1))), api.ErrLong)
	wantNo(t, full(31), api.OK)
	wantNo(t, not(full(31)), api.OK)
	wantNo(t, not(not(full(31))), api.ErrLong)
	wantNo(t, full(32), api.ErrLong)
	wantNo(t, full(4000), api.ErrLong)
	wantNo(t, op(api.ExprIf, full(20), full(10), full(0)), api.OK)
	wantNo(t, op(api.ExprIf, full(20), full(10), neg(full(0))), api.ErrLong)
}

// 8.1: what is not well-formed comes first, as far as it is examined: within at most MaxDepth others.
func TestDeep(t *testing.T) {
	for _, m := range malformed() {
		wantNo(t, nots(maxDepth-1, m), api.ErrForm)
		wantNo(t, nots(maxDepth, m), api.ErrForm)
		wantNo(t, nots(maxDepth+1, m), api.ErrLong)
		wantNo(t, nots(99, m), api.ErrLong)
	}
	bad := op(api.ExprNot)
	wantNo(t, add(nots(99, con(1)), bad), api.ErrForm)
	wantNo(t, add(full(99), bad), api.ErrForm)
	wantNo(t, add(bad, full(99)), api.ErrForm)
	wantNo(t, nots(maxDepth, neg(bad)), api.ErrLong)
	// What is within more others does not count, but that there is something does.
	wantNo(t, nots(maxDepth, add(con(1), con(1))), api.ErrLong)
}

// P1: expressions that contain themselves, or one thing many times.
func TestEndless(t *testing.T) {
	one := []api.Expr{{Op: api.ExprNot}}
	one[0].Kids = one
	wantNo(t, one[0], api.ErrLong)
	two := []api.Expr{{Op: api.ExprAdd}, {Op: api.ExprAdd}}
	two[0].Kids, two[1].Kids = two, two
	wantNo(t, two[1], api.ErrLong)
	two[1].Kids = nil
	wantNo(t, two[0], api.ErrForm)
}

// 8.1
func TestInfer(t *testing.T) {
	schema := expr.Schema(example())
	number, text := api.TypeInt, api.TypeText
	wantType(t, when(col(0), col(2), col(2)), schema, text, api.OK)
	wantType(t, when(col(0), col(2), col(1)), schema, 0, api.ErrType)
	wantType(t, add(col(2), col(7)), schema, 0, api.ErrRange)
	wantType(t, less(add(col(0), con(1)), col(1)), []api.Type{number, number}, number, api.OK)
	wantType(t, and(con(0), con("a")), nil, 0, api.ErrType)
	wantType(t, con(1), nil, number, api.OK)
	wantType(t, con(""), nil, text, api.OK)
	for i, want := range schema {
		wantType(t, col(i), schema, want, api.OK)
	}
	for _, i := range []int{3, -1, math.MaxInt, math.MinInt} {
		wantType(t, col(i), schema, 0, api.ErrRange)
	}
	wantType(t, col(0), nil, 0, api.ErrRange)
	wantType(t, col(8), slices.Repeat([]api.Type{text}, 9), text, api.OK)
	for _, o := range []api.ExprOp{api.ExprNeg, api.ExprNot} {
		wantType(t, op(o, con(5)), nil, number, api.OK)
		wantType(t, op(o, con("a")), nil, 0, api.ErrType)
	}
	for _, o := range []api.ExprOp{api.ExprAdd, api.ExprSub, api.ExprMul, api.ExprAnd, api.ExprOr} {
		wantType(t, op(o, con(5), con(0)), nil, number, api.OK)
		wantType(t, op(o, con(5), con("a")), nil, 0, api.ErrType)
		wantType(t, op(o, con("a"), con(5)), nil, 0, api.ErrType)
		wantType(t, op(o, con("a"), con("a")), nil, 0, api.ErrType)
	}
	for _, o := range []api.ExprOp{api.ExprLess, api.ExprEqual} {
		wantType(t, op(o, con(5), con(0)), nil, number, api.OK)
		wantType(t, op(o, con("b"), con("a")), nil, number, api.OK)
		wantType(t, op(o, con(5), con("a")), nil, 0, api.ErrType)
		wantType(t, op(o, con("a"), con(5)), nil, 0, api.ErrType)
	}
	wantType(t, when(con(0), con(1), con(2)), nil, number, api.OK)
	wantType(t, when(con("a"), con(1), con(2)), nil, 0, api.ErrType)
	wantType(t, when(con("a"), con("b"), con("c")), nil, 0, api.ErrType)
	wantType(t, when(con(1), con(1), con("c")), nil, 0, api.ErrType)
	wantType(t, when(con(1), con("c"), con(1)), nil, 0, api.ErrType)
}

// 8.1: the first error of the Kids in their order, and only then that of the expression itself.
func TestInferFirst(t *testing.T) {
	far, odd := col(9), neg(con("a"))
	for _, x := range []struct {
		e  api.Expr
		no api.Errno
	}{
		{add(far, odd), api.ErrRange},
		{add(odd, far), api.ErrType},
		{add(con("a"), far), api.ErrRange},
		{less(con("a"), add(con(1), far)), api.ErrRange},
		{equal(odd, far), api.ErrType},
		{when(con("a"), con(1), far), api.ErrRange},
		{when(con("a"), odd, far), api.ErrType},
		{when(far, odd, con(1)), api.ErrRange},
		{when(con(1), far, con("a")), api.ErrRange},
		{and(con(0), far), api.ErrRange},
		{or(con(1), odd), api.ErrType},
		{not(not(odd)), api.ErrType},
		{neg(neg(far)), api.ErrRange},
		{add(neg(far), odd), api.ErrRange},
		{add(neg(odd), far), api.ErrType},
	} {
		wantType(t, x.e, nil, 0, x.no)
	}
}

// 8.1: the types of a schema may be any.
func TestInferOdd(t *testing.T) {
	schema := []api.Type{api.TypeNone, 77, 77, api.TypeInt, 255}
	wantType(t, col(0), schema, api.TypeNone, api.OK)
	wantType(t, col(1), schema, 77, api.OK)
	wantType(t, equal(col(1), col(2)), schema, api.TypeInt, api.OK)
	wantType(t, equal(col(1), col(4)), schema, 0, api.ErrType)
	wantType(t, equal(col(0), col(3)), schema, 0, api.ErrType)
	wantType(t, less(col(0), col(0)), schema, api.TypeInt, api.OK)
	wantType(t, when(col(3), col(0), col(0)), schema, api.TypeNone, api.OK)
	wantType(t, when(col(0), col(3), col(3)), schema, 0, api.ErrType)
	wantType(t, when(col(3), col(1), col(0)), schema, 0, api.ErrType)
	wantType(t, not(col(0)), schema, 0, api.ErrType)
	wantType(t, add(col(1), col(1)), schema, 0, api.ErrType)
}

// 8.1
func TestSchema(t *testing.T) {
	number, text := api.TypeInt, api.TypeText
	for _, x := range []struct {
		row  []api.Value
		want []api.Type
	}{
		{nil, nil},
		{[]api.Value{}, nil},
		{example(), []api.Type{number, number, text}},
		{row("", 0), []api.Type{text, number}},
		{slices.Repeat(row("x"), 9), slices.Repeat([]api.Type{text}, 9)},
		// Of values that are not valid only IsText matters.
		{[]api.Value{{S: "x"}, {IsText: true, N: 1}}, []api.Type{number, text}},
	} {
		if l := expr.Schema(x.row); !slices.Equal(l, x.want) {
			t.Errorf("Schema of %s: %d", showRow(x.row), l)
		}
	}
}

// 8.2: the document's examples.
func TestExamples(t *testing.T) {
	r := example()
	for _, x := range []struct {
		e    api.Expr
		row  []api.Value
		want int
		no   api.Errno
	}{
		{add(col(0), col(1)), r, 1, api.OK},
		{sub(con(least), con(1)), r, 0, api.ErrOver},
		{equal(col(2), col(0)), r, 0, api.ErrType},
		{and(con(0), col(2)), r, 0, api.OK},
		{and(con(1), col(2)), r, 0, api.ErrType},
		{or(con(5), col(9)), r, 1, api.OK},
		{col(3), r, 0, api.ErrRange},
		{less(add(col(0), con(1)), col(1)), row(1, 2), 0, api.OK},
		{less(add(col(0), con(1)), col(1)), row(1, 3), 1, api.OK},
		{and(con(0), con("a")), nil, 0, api.OK},
	} {
		wantValue(t, x.e, x.row, val(x.want), x.no)
	}
}

// 8.2: all operators, of numbers and of texts.
func TestEval(t *testing.T) {
	numbers := map[api.ExprOp]func(a, b int) int{
		api.ExprAdd:   func(a, b int) int { return a + b },
		api.ExprSub:   func(a, b int) int { return a - b },
		api.ExprMul:   func(a, b int) int { return a * b },
		api.ExprNeg:   func(a, _ int) int { return -a },
		api.ExprNot:   func(a, _ int) int { return truth(a == 0) },
		api.ExprAnd:   func(a, b int) int { return truth(a != 0 && b != 0) },
		api.ExprOr:    func(a, b int) int { return truth(a != 0 || b != 0) },
		api.ExprLess:  func(a, b int) int { return truth(a < b) },
		api.ExprEqual: func(a, b int) int { return truth(a == b) },
		api.ExprIf: func(a, b int) int {
			if a != 0 {
				return b
			}
			return 7
		},
	}
	for o, f := range numbers {
		for a := -3; a <= 3; a++ {
			for b := -3; b <= 3; b++ {
				kids := []api.Expr{col(0), con(b), con(7)}[:arity()[o]]
				wantValue(t, op(o, kids...), row(a), val(f(a, b)), api.OK)
			}
		}
	}
	texts := []string{"", "a", "b", "ab", "\xff", strings.Repeat("a", maxText)}
	for _, a := range texts {
		for _, b := range texts {
			wantValue(t, less(con(a), col(1)), row(0, b), val(truth(a < b)), api.OK)
			wantValue(t, equal(con(a), col(1)), row(0, b), val(truth(a == b)), api.OK)
		}
		wantValue(t, con(a), nil, val(a), api.OK)
		wantValue(t, when(con(1), con(a), con(1)), nil, val(a), api.OK)
		wantValue(t, when(con(0), con(1), col(0)), row(a), val(a), api.OK)
	}
	for i, v := range example() {
		wantValue(t, col(i), example(), v, api.OK)
	}
}

func truth(ok bool) int {
	if ok {
		return 1
	}
	return 0
}

// 8.2: numbers at the ends, and those that do not fit.
func TestOver(t *testing.T) {
	for _, x := range []struct {
		e    api.Expr
		want int
		no   api.Errno
	}{
		{add(con(greatest), con(0)), greatest, api.OK},
		{add(con(greatest), con(1)), 0, api.ErrOver},
		{add(con(greatest), con(least)), -1, api.OK},
		{add(con(least), con(-1)), 0, api.ErrOver},
		{add(con(least), con(least)), 0, api.ErrOver},
		{sub(con(0), con(greatest)), -greatest, api.OK},
		{sub(con(0), con(least)), 0, api.ErrOver},
		{sub(con(-1), con(least)), greatest, api.OK},
		{sub(con(least), con(least)), 0, api.OK},
		{sub(con(least), con(0)), least, api.OK},
		{sub(con(least), con(-1)), least + 1, api.OK},
		{sub(con(greatest), con(greatest)), 0, api.OK},
		{sub(con(greatest), con(-1)), 0, api.ErrOver},
		{sub(con(-2), con(greatest)), 0, api.ErrOver},
		{sub(con(-1), con(greatest)), least, api.OK},
		{mul(con(least), con(1)), least, api.OK},
		{mul(con(least), con(-1)), 0, api.ErrOver},
		{mul(con(1<<32), con(1<<31)), 0, api.ErrOver},
		{mul(con(1<<32), con(-1<<31)), least, api.OK},
		{mul(con(greatest), con(2)), 0, api.ErrOver},
		{mul(con(0), con(least)), 0, api.OK},
		{neg(con(greatest)), -greatest, api.OK},
		{neg(con(least)), 0, api.ErrOver},
		{neg(con(least + 1)), greatest, api.OK},
		{less(con(least), con(greatest)), 1, api.OK},
		{less(con(greatest), con(least)), 0, api.OK},
		{not(con(least)), 0, api.OK},
		{and(con(least), con(greatest)), 1, api.OK},
		{sub(add(con(greatest), con(1)), con(1)), 0, api.ErrOver},
		{add(con(-1), neg(con(least))), 0, api.ErrOver},
	} {
		wantValue(t, x.e, nil, val(x.want), x.no)
	}
}

// 8.2: what is evaluated, and in what order.
func TestOrder(t *testing.T) {
	far, odd, over, text := col(9), neg(con("a")), neg(con(least)), con("a")
	type order struct {
		e    api.Expr
		want int
		no   api.Errno
	}
	l := []order{
		{not(text), 0, api.ErrType}, {neg(text), 0, api.ErrType}, {neg(far), 0, api.ErrRange}, {not(over), 0, api.ErrOver},
		// Types of both are looked at only when both were evaluated.
		{less(text, far), 0, api.ErrRange}, {equal(text, over), 0, api.ErrOver}, {less(text, con(1)), 0, api.ErrType}, {equal(con(1), text), 0, api.ErrType}, {less(over, far), 0, api.ErrOver}, {equal(far, over), 0, api.ErrRange}, {equal(odd, far), 0, api.ErrType},
		{when(text, far, over), 0, api.ErrType}, {when(far, text, text), 0, api.ErrRange}, {when(over, text, far), 0, api.ErrOver}, {when(con(1), con(8), far), 8, api.OK}, {when(con(0), far, con(8)), 8, api.OK}, {when(con(1), far, over), 0, api.ErrRange}, {when(con(0), far, over), 0, api.ErrOver}, {when(con(-1), con(8), odd), 8, api.OK},
		{and(con(0), far), 0, api.OK}, {and(con(0), over), 0, api.OK}, {and(con(0), odd), 0, api.OK}, {and(con(1), far), 0, api.ErrRange}, {and(con(-1), over), 0, api.ErrOver}, {and(text, far), 0, api.ErrType}, {and(far, text), 0, api.ErrRange}, {and(con(2), con(0)), 0, api.OK},
		{or(con(1), far), 1, api.OK}, {or(con(-1), text), 1, api.OK}, {or(con(least), over), 1, api.OK}, {or(con(0), far), 0, api.ErrRange}, {or(con(0), text), 0, api.ErrType}, {or(text, far), 0, api.ErrType}, {or(over, text), 0, api.ErrOver}, {or(con(0), con(0)), 0, api.OK},
		{add(when(con(1), text, con(1)), far), 0, api.ErrType}, {add(con(1), when(con(0), con(1), text)), 0, api.ErrType},
		{or(and(con(0), far), con(3)), 1, api.OK}, {and(or(con(1), far), or(con(0), far)), 0, api.ErrRange},
	}
	// Of two numbers the type of the first one is looked at ahead of the second one.
	for _, o := range []api.ExprOp{api.ExprAdd, api.ExprSub, api.ExprMul} {
		l = append(l, order{op(o, text, far), 0, api.ErrType}, order{op(o, far, text), 0, api.ErrRange}, order{op(o, over, far), 0, api.ErrOver}, order{op(o, con(1), far), 0, api.ErrRange}, order{op(o, con(1), text), 0, api.ErrType}, order{op(o, text, over), 0, api.ErrType}, order{op(o, con(greatest), odd), 0, api.ErrType}, order{op(o, text, text), 0, api.ErrType})
	}
	for _, x := range l {
		wantValue(t, x.e, example(), val(x.want), x.no)
	}
	for _, i := range []int{-1, 3, math.MinInt, math.MaxInt} {
		wantValue(t, col(i), example(), api.Value{}, api.ErrRange)
	}
}

// 8.2: the form comes first, then the row, then what is evaluated.
func TestRow(t *testing.T) {
	for _, r := range [][]api.Value{make([]api.Value, maxCols+1), {{N: 1, S: "x"}}, {{IsText: true, N: 1}}, row(1, strings.Repeat("x", maxText+1))} {
		for _, e := range []api.Expr{con(1), col(0), col(99), neg(con("a")), neg(con(least))} {
			wantValue(t, e, r, api.Value{}, api.ErrForm)
		}
		wantValue(t, nots(99, con(1)), r, api.Value{}, api.ErrLong)
	}
	wantValue(t, col(7), slices.Repeat(row(strings.Repeat("x", maxText)), maxCols), val(strings.Repeat("x", maxText)), api.OK)
}

// chance is numbers that look like chance.
type chance uint64

func (c *chance) below(n int) int {
	*c ^= *c << 13
	*c ^= *c >> 7
	*c ^= *c << 17
	return int(uint64(*c) >> 11 % uint64(n))
}

// expr is an expression of at most so many within each other.
func (c *chance) expr(depth int) api.Expr {
	values := []any{0, 1, -1, 5, greatest, least, "", "a", "b"}
	o := api.ExprOp(1 + c.below(int(api.ExprCount)-1))
	if depth == 1 {
		o = api.ExprOp(1 + c.below(2))
	}
	switch o {
	case api.ExprCol:
		return col(c.below(5))
	case api.ExprConst:
		return con(values[c.below(len(values))])
	}
	e := op(o)
	for range arity()[o] {
		e.Kids = append(e.Kids, c.expr(depth-1))
	}
	return e
}

// typed is the type of an expression as it is written down.
func typed(e api.Expr, schema []api.Type) (api.Type, api.Errno) {
	if e.Op == api.ExprCol {
		if e.Col >= len(schema) {
			return 0, api.ErrRange
		}
		return schema[e.Col], api.OK
	}
	if e.Op == api.ExprConst {
		return expr.Schema([]api.Value{e.Const})[0], api.OK
	}
	var l []api.Type
	for _, k := range e.Kids {
		x, why := typed(k, schema)
		if why != api.OK {
			return 0, why
		}
		l = append(l, x)
	}
	same := true
	answer, all := api.TypeInt, l
	switch e.Op {
	case api.ExprLess, api.ExprEqual:
		same = l[0] == l[1]
		all = nil
	case api.ExprIf:
		same = l[1] == l[2]
		answer, all = l[1], l[:1]
	}
	for _, x := range all {
		same = same && x == api.TypeInt
	}
	if !same {
		return 0, api.ErrType
	}
	return answer, api.OK
}

// 8.1, 8.4: whatever has a type evaluates to a value of it, or does not fit.
func TestTyped(t *testing.T) {
	c := chance(88172645463325252)
	rows := [][]api.Value{row(3, -2, "a"), row(0, "b", "", 1), row("x", 0), nil, row(least, greatest, 1, 0)}
	found := map[api.Errno]int{}
	for range 60000 {
		e := c.expr(1 + c.below(5))
		if expr.Check(e) != api.OK {
			continue
		}
		for _, r := range rows {
			schema := expr.Schema(r)
			want, no := typed(e, schema)
			wantType(t, e, schema, want, no)
			v, why := expr.Eval(e, r)
			found[why]++
			if no != api.OK {
				continue
			}
			if why != api.ErrOver && (why != api.OK || expr.Schema([]api.Value{v})[0] != want || value.Check([]api.Value{v}) != api.OK) {
				t.Errorf("%s for %s: %s, error %d; its type is %d", showExpr(e), showRow(r), showValue(v), why, want)
			}
		}
	}
	for _, why := range []api.Errno{api.OK, api.ErrRange, api.ErrType, api.ErrOver} {
		if found[why] < 1000 {
			t.Errorf("error %d was found %d times", why, found[why])
		}
	}
}

// 8.3, P3, P4: expressions, rows and schemas are as they were, and a schema is new.
func TestWhole(t *testing.T) {
	before := runtime.NumGoroutine()
	r := append(example(), val(77), val(78))[:3]
	kids := []api.Expr{col(0), col(2), con("b"), con(9)}[:3]
	e := op(api.ExprIf, kids...)
	for range 2 {
		schema := expr.Schema(r)
		again := append(expr.Schema(r), 99)
		wantType(t, e, append(schema, 9)[:3], api.TypeText, api.OK)
		wantValue(t, e, r, val("a"), api.OK)
		expr.Check(e)
		schema[0] = 55
		if again[0] != api.TypeInt || !slices.Equal(expr.Schema(r), []api.Type{api.TypeInt, api.TypeInt, api.TypeText}) {
			t.Errorf("schemas share memory: %d", again)
		}
	}
	if showRow(r[:5]) != showRow(row(3, -2, "a", 77, 78)) || showExpr(op(api.ExprIf, kids[:4]...)) != showExpr(op(api.ExprIf, col(0), col(2), con("b"), con(9))) {
		t.Errorf("changed: %s, %s", showRow(r[:5]), showExpr(e))
	}
	if n := runtime.NumGoroutine(); n > before {
		t.Errorf("%d goroutines are left", n-before)
	}
}
