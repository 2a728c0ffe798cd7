package input

import (
	"freshet/api"
	"freshet/first"
	"freshet/pack"
	"freshet/value"
)

// Decode returns the record whose encoding s is, or ErrForm if there is none.
func Decode(s string) (api.Record, api.Errno) {
	if len(s) > api.MaxData {
		return api.Record{}, api.ErrForm
	}
	d := records{rows: rows{rest: s}}
	r := d.record()
	if d.Why != api.OK {
		return api.Record{}, api.ErrForm
	}
	// This finds, too, bytes that are left, and what can be taken but not encoded.
	if again, why := Encode(r); why != api.OK || again != s {
		return api.Record{}, api.ErrForm
	}
	return r, api.OK
}

// rows decodes rows, and what they are made of, up to the first error; behind that nothing is left.
type rows struct {
	first.Error
	rest string
}

// take returns what of takes from the beginning of what is left.
func take[T any](d *rows, of func(string) (T, string, api.Errno)) T {
	x, rest, why := of(d.rest)
	d.rest = rest
	d.Fail(why)
	return x
}

func (d *rows) count() uint64 {
	return take(d, pack.TakeCount)
}

func (d *rows) number() int64 {
	return take(d, pack.TakeNumber)
}

func (d *rows) text() string {
	return take(d, pack.TakeText)
}

func (d *rows) row() []api.Value {
	return take(d, value.Take)
}

func (d *rows) octet() byte {
	return take(d, func(s string) (byte, string, api.Errno) {
		if s == "" {
			return 0, "", api.ErrMore
		}
		return s[0], s[1:], api.OK
	})
}

// records decodes records, and what they are made of.
type records struct {
	rows
}

// elements returns a list. Its number of elements comes from outside: no room is made for them before they are there.
func elements[T any](d *records, element func() T) []T {
	var l []T
	for n := d.count(); n > 0 && d.Why == api.OK; n-- {
		l = append(l, element())
	}
	return l
}

func (d *records) record() api.Record {
	r := api.Record{Kind: api.RecordKind(d.octet())}
	switch r.Kind {
	case api.RecordSchemas:
		r.Schemas = elements(d, d.schema)
	case api.RecordPut:
		r.Source = d.integer()
		r.List = elements(d, d.update)
	case api.RecordInstall:
		r.Name = d.text()
		r.Plan = d.plan(0)
	case api.RecordDrop, api.RecordLeave:
		r.Name = d.text()
	case api.RecordSub:
		r.Name, r.Query = d.text(), d.text()
		r.Epoch = d.count()
	case api.RecordMark, api.RecordAck:
		r.Name = d.text()
		fallthrough
	case api.RecordClose, api.RecordHold:
		r.Epoch = d.count()
	}
	return r
}

func (d *records) integer() int {
	return int(d.number())
}

func (d *records) schema() []api.Type {
	return elements(d, func() api.Type { return api.Type(d.octet()) })
}

func (d *records) update() api.Update {
	var u api.Update
	u.Row = d.row()
	u.Time.Epoch = d.count()
	u.Diff = d.number()
	return u
}

// constant is the value of a row of one value.
func (d *records) constant() api.Value {
	row := d.row()
	if len(row) != 1 {
		d.Fail(api.ErrForm)
		return api.Value{}
	}
	return row[0]
}

// expr returns an expression that is contained in so many others.
func (d *records) expr(others int) api.Expr {
	d.limit(others)
	var e api.Expr
	e.Op = api.ExprOp(d.octet())
	e.Col = d.integer()
	e.Const = d.constant()
	e.Kids = elements(d, func() api.Expr { return d.expr(others + 1) })
	return e
}

// plan returns a plan that is contained in so many others.
func (d *records) plan(others int) api.Plan {
	d.limit(others)
	var p api.Plan
	p.Kind = api.PlanKind(d.octet())
	p.N = d.integer()
	p.Kids = elements(d, func() api.Plan { return d.plan(others + 1) })
	p.Exprs = elements(d, func() api.Expr { return d.expr(0) })
	p.Cols = elements(d, d.integer)
	p.With = elements(d, d.integer)
	p.Agg = api.AggKind(d.octet())
	p.Rounds = d.integer()
	return p
}

// limit fails within too many others, so that what goes on and on within itself is not followed.
func (d *records) limit(others int) {
	if others >= api.MaxDepth {
		d.Fail(api.ErrForm)
	}
}
