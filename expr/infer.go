package expr

import (
	"freshet/api"
	"freshet/first"
)

// typer finds the type of an expression, or the first error of it.
type typer struct {
	first.Error
	schema []api.Type
}

// Infer returns the type of an expression for rows of a schema.
func Infer(e api.Expr, schema []api.Type) (api.Type, api.Errno) {
	if why := Check(e); why != api.OK {
		return api.TypeNone, why
	}
	t := typer{schema: schema}
	is := t.infer(e)
	if t.Why != api.OK {
		return api.TypeNone, t.Why
	}
	return is, api.OK
}

func (t *typer) infer(e api.Expr) api.Type {
	switch e.Op {
	case api.ExprCol:
		if e.Col < 0 || e.Col >= len(t.schema) {
			t.Fail(api.ErrRange)
			return api.TypeNone
		}
		return t.schema[e.Col]
	case api.ExprConst:
		return typeOf(e.Const)
	}
	var kids []api.Type
	for _, k := range e.Kids {
		kids = append(kids, t.infer(k))
	}
	switch e.Op {
	case api.ExprLess, api.ExprEqual:
		t.same(kids...)
	case api.ExprIf:
		t.same(api.TypeInt, kids[0])
		t.same(kids[1:]...)
		return kids[1]
	default:
		t.same(append(kids, api.TypeInt)...)
	}
	return api.TypeInt
}

// same fails if types differ.
func (t *typer) same(l ...api.Type) {
	for _, x := range l {
		if x != l[0] {
			t.Fail(api.ErrType)
		}
	}
}

// Schema returns the types of the values of a row.
func Schema(row []api.Value) []api.Type {
	var l []api.Type
	for _, v := range row {
		l = append(l, typeOf(v))
	}
	return l
}

func typeOf(v api.Value) api.Type {
	if v.IsText {
		return api.TypeText
	}
	return api.TypeInt
}
