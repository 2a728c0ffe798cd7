package input

import (
	"slices"
	"strings"

	"freshet/api"
	"freshet/pack"
	"freshet/plan"
	"freshet/value"
)

// Encode returns the encoding of a record, or ErrForm if it has none, or ErrLong if that has more than MaxData bytes.
func Encode(r api.Record) (string, api.Errno) {
	if !plain(r) || !encodable(r) {
		return "", api.ErrForm
	}
	s := concat(octet(byte(r.Kind)), fields(r))
	if len(s) > api.MaxData {
		return "", api.ErrLong
	}
	return s, api.OK
}

// encodable reports whether what a record uses can be encoded.
func encodable(r api.Record) bool {
	if len(r.List) > api.MaxList || len(r.Name) > api.MaxName || len(r.Query) > api.MaxName {
		return false
	}
	wrong := func(u api.Update) bool { return inner(u) || value.Check(u.Row) != api.OK }
	if slices.ContainsFunc(r.List, wrong) || plan.CheckSchemas(r.Schemas) != api.OK {
		return false
	}
	return r.Kind != api.RecordInstall || plan.Check(r.Plan) == api.OK
}

// fields is the encoding of the fields that the kind of a record uses.
func fields(r api.Record) string {
	query, s := "", ""
	switch r.Kind {
	case api.RecordSchemas:
		s = list(r.Schemas, schema)
	case api.RecordPut:
		s = concat(number(r.Source), list(r.List, update))
	case api.RecordInstall:
		s = concat(pack.Text(r.Name), planned(r.Plan))
	case api.RecordDrop, api.RecordLeave:
		s = pack.Text(r.Name)
	case api.RecordSub:
		query = pack.Text(r.Query)
		fallthrough
	case api.RecordMark, api.RecordAck:
		s = concat(pack.Text(r.Name), query)
		fallthrough
	case api.RecordClose, api.RecordHold:
		s = concat(s, pack.Count(r.Epoch))
	}
	return s
}

// list is the encoding of a list: the number of its elements, and each of them.
func list[T any](l []T, encode func(T) string) string {
	parts := []string{pack.Count(uint64(len(l)))}
	for _, x := range l {
		parts = append(parts, encode(x))
	}
	return concat(parts...)
}

func schema(l []api.Type) string {
	return list(l, func(x api.Type) string { return octet(byte(x)) })
}

func update(u api.Update) string {
	return concat(row(u.Row...), pack.Count(u.Time.Epoch), pack.Number(u.Diff))
}

// row is the encoding of a row that is valid.
func row(values ...api.Value) string {
	s, _ := value.Encode(values)
	return s
}

func expression(e api.Expr) string {
	return concat(octet(byte(e.Op)), number(e.Col), row(e.Const), list(e.Kids, expression))
}

func planned(p api.Plan) string {
	return concat(octet(byte(p.Kind)), number(p.N), list(p.Kids, planned), list(p.Exprs, expression), list(p.Cols, number), list(p.With, number), octet(byte(p.Agg)), number(p.Rounds))
}

func number(n int) string {
	return pack.Number(int64(n))
}

func octet(b byte) string {
	return string([]byte{b})
}

func concat(parts ...string) string {
	return strings.Join(parts, "")
}
