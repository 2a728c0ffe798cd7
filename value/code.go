package value

import (
	"strings"

	"freshet/api"
	"freshet/pack"
)

// The byte ahead of each value, by its type.
const (
	numberByte byte = iota
	textByte
)

// Encode returns the encoding of a row.
func Encode(row []api.Value) (string, api.Errno) {
	if why := Check(row); why != api.OK {
		return "", why
	}
	var b strings.Builder
	b.WriteString(pack.Count(uint64(len(row))))
	for _, v := range row {
		if v.IsText {
			b.WriteByte(textByte)
			b.WriteString(pack.Text(v.S))
		} else {
			b.WriteByte(numberByte)
			b.WriteString(pack.Number(v.N))
		}
	}
	return b.String(), api.OK
}

// Take returns the row at the beginning of s, and the rest of s.
func Take(s string) ([]api.Value, string, api.Errno) {
	n, rest, why := pack.TakeCount(s)
	// The count comes from outside: it is held against the limit ahead of making room for so many.
	if why != api.OK || n > api.MaxCols {
		return nil, "", api.ErrForm
	}
	row := make([]api.Value, n)
	for i := range row {
		if row[i], rest, why = takeValue(rest); why != api.OK {
			return nil, "", api.ErrForm
		}
	}
	if why := Check(row); why != api.OK {
		return nil, "", why
	}
	return row, rest, api.OK
}

// takeValue returns the value at the beginning of s, whose text may be too long for a row, and the rest of s.
func takeValue(s string) (v api.Value, rest string, why api.Errno) {
	if s == "" {
		return api.Value{}, "", api.ErrMore
	}
	switch s[0] {
	case numberByte:
		v.N, rest, why = pack.TakeNumber(s[1:])
	case textByte:
		v.IsText = true
		v.S, rest, why = pack.TakeText(s[1:])
	default:
		why = api.ErrForm
	}
	return v, rest, why
}
