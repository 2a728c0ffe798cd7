package expr

import (
	"freshet/api"
	"freshet/diff"
	"freshet/first"
	"freshet/value"
)

// evaluator evaluates an expression up to the first error; what it answers behind that does not matter.
type evaluator struct {
	first.Error
	row []api.Value
}

// Eval returns the value of an expression for a row.
func Eval(e api.Expr, row []api.Value) (api.Value, api.Errno) {
	if why := Check(e); why != api.OK {
		return api.Value{}, why
	}
	if why := value.Check(row); why != api.OK {
		return api.Value{}, why
	}
	v := evaluator{row: row}
	x := v.eval(e)
	if v.Why != api.OK {
		return api.Value{}, v.Why
	}
	return x, api.OK
}

func (v *evaluator) eval(e api.Expr) api.Value {
	switch e.Op {
	case api.ExprCol:
		return v.column(e.Col)
	case api.ExprConst:
		return e.Const
	case api.ExprIf:
		if v.number(e.Kids[0]) != 0 {
			return v.eval(e.Kids[1])
		}
		return v.eval(e.Kids[2])
	case api.ExprLess, api.ExprEqual, api.ExprAnd, api.ExprOr, api.ExprNot:
		if v.holds(e) {
			return api.Value{N: 1}
		}
		return api.Value{}
	}
	n, why := v.reckon(e)
	v.Fail(why)
	return api.Value{N: n}
}

func (v *evaluator) column(i int) api.Value {
	if i < 0 || i >= len(v.row) {
		v.Fail(api.ErrRange)
		return api.Value{}
	}
	return v.row[i]
}

// number is the value of an expression that must be a number.
func (v *evaluator) number(e api.Expr) int64 {
	x := v.eval(e)
	if x.IsText {
		v.Fail(api.ErrType)
	}
	return x.N
}

// holds reports whether what an expression asks is so; a second Kid that is not needed is not evaluated.
func (v *evaluator) holds(e api.Expr) bool {
	switch e.Op {
	case api.ExprLess:
		return v.compare(e) < 0
	case api.ExprEqual:
		return v.compare(e) == 0
	case api.ExprAnd:
		return v.number(e.Kids[0]) != 0 && v.number(e.Kids[1]) != 0
	case api.ExprOr:
		return v.number(e.Kids[0]) != 0 || v.number(e.Kids[1]) != 0
	}
	return v.number(e.Kids[0]) == 0
}

func (v *evaluator) compare(e api.Expr) int {
	a, b := v.eval(e.Kids[0]), v.eval(e.Kids[1])
	if a.IsText != b.IsText {
		v.Fail(api.ErrType)
	}
	return value.Compare(a, b)
}

// reckon computes a number of one or two numbers. As the negated number may not fit where a difference does, n is subtracted as the sum of ^n, which is -n - 1, and 1.
func (v *evaluator) reckon(e api.Expr) (int64, api.Errno) {
	n := v.number(e.Kids[0])
	if e.Op == api.ExprNeg {
		return diff.Sum(^n, 1)
	}
	m := v.number(e.Kids[1])
	switch e.Op {
	case api.ExprAdd:
		return diff.Sum(n, m)
	case api.ExprSub:
		return diff.Sum(n, ^m, 1)
	}
	return diff.Times(n, m)
}
