package plan

import (
	"slices"

	"freshet/api"
	"freshet/copies"
	"freshet/expr"
	"freshet/first"
)

// CheckSchemas returns ErrForm if the schemas of sources are not valid.
func CheckSchemas(l [][]api.Type) api.Errno {
	if len(l) > api.MaxSources {
		return api.ErrForm
	}
	for _, schema := range l {
		if len(schema) > api.MaxCols || slices.ContainsFunc(schema, unknown) {
			return api.ErrForm
		}
	}
	return api.OK
}

func unknown(x api.Type) bool {
	return x != api.TypeInt && x != api.TypeText
}

// typer finds the schema of a plan, or the first error of it; what it finds behind that does not matter.
type typer struct {
	first.Error
	sources [][]api.Type
}

// Infer returns the schema of a plan for those of the sources.
func Infer(p api.Plan, sources [][]api.Type) ([]api.Type, api.Errno) {
	if why := CheckSchemas(sources); why != api.OK {
		return nil, why
	}
	if why := Check(p); why != api.OK {
		return nil, why
	}
	t := typer{sources: sources}
	schema := t.infer(&p, nil)
	if t.Why != api.OK {
		return nil, t.Why
	}
	return copies.List(schema), api.OK
}

// infer is the schema of a plan within loops of these schemas, the nearest one first. It may share memory with that of a source.
func (t *typer) infer(p *api.Plan, loops [][]api.Type) []api.Type {
	switch p.Kind {
	case api.PlanSource:
		return t.pick(t.sources, p.N)
	case api.PlanVar:
		return t.pick(loops, p.N)
	case api.PlanIterate:
		x := t.infer(&p.Kids[0], loops)
		t.same(x, t.infer(&p.Kids[1], slices.Concat([][]api.Type{x}, loops)))
		return x
	}
	var kids [][]api.Type
	for i := range p.Kids {
		kids = append(kids, t.infer(&p.Kids[i], loops))
	}
	switch p.Kind {
	case api.PlanMap:
		return t.types(p.Exprs, kids[0])
	case api.PlanFilter:
		t.same([]api.Type{api.TypeInt}, t.types(p.Exprs, kids[0]))
	case api.PlanConcat:
		for _, x := range kids[1:] {
			t.same(kids[0], x)
		}
	case api.PlanJoin:
		t.same(t.at(kids[0], p.Cols...), t.at(kids[1], p.With...))
		return t.short(slices.Concat(kids...))
	case api.PlanReduce:
		return t.reduce(p, kids[0])
	}
	return kids[0]
}

// pick is the schema at an index.
func (t *typer) pick(l [][]api.Type, i int) []api.Type {
	if i < 0 || i >= len(l) {
		t.Fail(api.ErrRange)
		return nil
	}
	return l[i]
}

// at is the types of a schema at some indices.
func (t *typer) at(schema []api.Type, cols ...int) []api.Type {
	var l []api.Type
	for _, i := range cols {
		if i < 0 || i >= len(schema) {
			t.Fail(api.ErrRange)
			return nil
		}
		l = append(l, schema[i])
	}
	return l
}

// types is the types of expressions over rows of a schema.
func (t *typer) types(exprs []api.Expr, schema []api.Type) []api.Type {
	var l []api.Type
	for _, e := range exprs {
		x, why := expr.Infer(e, schema)
		t.Fail(why)
		l = append(l, x)
	}
	return t.short(l)
}

func (t *typer) reduce(p *api.Plan, schema []api.Type) []api.Type {
	l := t.at(schema, p.Cols...)
	switch p.Agg {
	case api.AggCount:
		l = append(l, api.TypeInt)
	case api.AggTop:
		if p.N < 1 || p.N > api.MaxTop {
			t.Fail(api.ErrRange)
		}
		return schema
	default:
		of := t.at(schema, p.N)
		if p.Agg == api.AggSum {
			t.same([]api.Type{api.TypeInt}, of)
		}
		l = append(l, of...)
	}
	return t.short(l)
}

// same fails if schemas differ.
func (t *typer) same(a, b []api.Type) {
	if !slices.Equal(a, b) {
		t.Fail(api.ErrType)
	}
}

// short fails if a schema is that of rows that are too long.
func (t *typer) short(l []api.Type) []api.Type {
	if len(l) > api.MaxCols {
		t.Fail(api.ErrLong)
	}
	return l
}
