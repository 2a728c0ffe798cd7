package value_test

import (
	"encoding/binary"
	"math"
	"runtime"
	"slices"
	"strings"
	"testing"

	"freshet/api"
	"freshet/value"
)

// encoded is the encoding of a row, made by other means.
func encoded(r []api.Value) string {
	b := binary.AppendUvarint(nil, uint64(len(r)))
	for _, v := range r {
		if v.IsText {
			b = append(binary.AppendUvarint(append(b, 1), uint64(len(v.S))), v.S...)
		} else {
			b = binary.AppendVarint(append(b, 0), v.N)
		}
	}
	return string(b)
}

// noise is a long text of all bytes in no plain order, the same in each run.
func noise(n int) string {
	b, x := make([]byte, n), uint32(1)
	for i := range b {
		x = x*1664525 + 1013904223
		b[i] = byte(x >> 24)
	}
	return string(b)
}

func wantTake(t *testing.T, s string, want []api.Value, rest string, no api.Errno) {
	t.Helper()
	r, left, why := value.Take(s)
	if !slices.Equal(r, want) || left != rest || why != no {
		t.Errorf("Take of %x: %s, rest %x, error %d; want %s, rest %x, error %d", s, show(r), left, why, show(want), rest, no)
	}
}

// 3.1
func TestEncode(t *testing.T) {
	long := strings.Repeat("x", maxText)
	for want, r := range map[string][]api.Value{
		"\x00":                               nil,
		"\x02\x00\x01\x01\x02é":              example(),
		"\x01\x00\x00":                       row(0),
		"\x01\x01\x00":                       row(""),
		"\x01\x00\x80\x01":                   row(64),
		"\x01\x01\x01\x00":                   row("\x00"),
		"\x01\x01\x40" + long:                row(long),
		"\x03\x01\x01a\x00\x02\x00" + "\x03": row("a", 1, -2),
		"\x01\x00\xff\xff\xff\xff\xff\xff\xff\xff\xff\x01": row(math.MinInt64),
	} {
		if s, why := value.Encode(r); s != want || why != api.OK {
			t.Errorf("Encode of %s: %x, error %d; want %x", show(r), s, why, want)
		}
	}
	for _, r := range valid() {
		if s, why := value.Encode(r); s != encoded(r) || why != api.OK {
			t.Errorf("Encode of %s: %x, error %d", show(r), s, why)
		}
	}
	for _, r := range wrong() {
		if s, why := value.Encode(r); s != "" || why != api.ErrForm {
			t.Errorf("Encode of %s: %x, error %d", show(r), s, why)
		}
	}
}

// 3.1: what is not the encoding of a row, cut short or not to be mended by what follows; and rows next to that.
func TestTake(t *testing.T) {
	long := strings.Repeat("x", maxText+1)
	low := strings.Repeat("\x80", 9)
	for _, s := range []string{
		"", "\x01", "\x01\x00", "\x01\x01", "\x02\x00\x00", "\x02\x00\x00\x01", "\x02\x00\x00\x00",
		"\x80", "\x01\x00\x80", "\x01\x00" + low, "\x01\x01\x80", "\x01\x01\x02x", "\x01\x01\x41",
	} {
		wantTake(t, s, nil, "", api.ErrForm)
	}
	for _, s := range []string{
		"\x09", "\x7f", "\x80\x00", "\x81\x00\x00\x00", low + "\x02", strings.Repeat("\xff", 20),
		"\x01\x02", "\x01\x03\x00", "\x01\x80\x00", "\x01\xff\x00", "\x02\x00\x00\x02\x00",
		"\x01\x00\x80\x00", "\x01\x00" + low + "\x02", "\x01\x01\x81\x00x",
		"\x01\x01\x41" + long, "\x01\x01\x81\x80\x04", "\x01\x01\x81\x80\x04" + strings.Repeat("x", 65537),
		"\x09" + strings.Repeat("\x00\x00", 9), "\x7f" + strings.Repeat("\x00\x00", 127), low + "\x01" + strings.Repeat("\x00\x00", 99),
		encoded(rising(maxCols + 1)), encoded(row(1, long)), encoded(row(long, 1)), encoded(slices.Repeat(row(long), maxCols)),
	} {
		wantTake(t, s, nil, "", api.ErrForm)
		wantTake(t, s+"\x01\x00\x00", nil, "", api.ErrForm)
	}
	wantTake(t, "\x00", nil, "", api.OK)
	wantTake(t, "\x00\x09", nil, "\x09", api.OK)
	wantTake(t, "\x01\x00\x01\x02", row(-1), "\x02", api.OK)
	wantTake(t, "\x01\x01\x40"+long, row(long[1:]), "x", api.OK)
	wantTake(t, "\x08"+strings.Repeat("\x00\x00", 9), row(0, 0, 0, 0, 0, 0, 0, 0), "\x00\x00", api.OK)
}

// 3.5
func TestThereAndBack(t *testing.T) {
	for _, rest := range []string{"", "\x00", "x", "\x80", "\x01\x00\x00", noise(99)} {
		for _, r := range valid() {
			s, _ := value.Encode(r)
			wantTake(t, s+rest, r, rest, api.OK)
		}
	}
	for _, r := range valid() {
		s := encoded(r)
		for i := range len(s) {
			wantTake(t, s[:i], nil, "", api.ErrForm)
		}
	}
}

// triples is all rows of up to three values out of few.
func triples() [][]api.Value {
	l, last := [][]api.Value{{}}, [][]api.Value{{}}
	for range 3 {
		var next [][]api.Value
		for _, r := range last {
			for _, v := range []api.Value{number(-1), number(2), text(""), text("a")} {
				next = append(next, append(slices.Clone(r), v))
			}
		}
		l, last = append(l, next...), next
	}
	return l
}

// 3.4
func TestOrder(t *testing.T) {
	l := triples()
	for _, a := range l {
		for _, b := range l {
			ab := value.Rows(a, b)
			if ba := value.Rows(b, a); ab != -ba || ab < -1 || ab > 1 {
				t.Fatalf("Rows of %s and %s: %d, the other way %d", show(a), show(b), ab, ba)
			}
			if (ab == 0) != slices.Equal(a, b) {
				t.Fatalf("Rows of %s and %s: %d", show(a), show(b), ab)
			}
			for _, c := range l {
				if ab <= 0 && value.Rows(b, c) <= 0 && value.Rows(a, c) > 0 {
					t.Fatalf("Rows of %s, %s and %s: no order", show(a), show(b), show(c))
				}
			}
		}
	}
}

// P1, P3, P4: any bytes are answered, each time in the same way, and what is taken is what they encode.
func TestAnyBytes(t *testing.T) {
	all, before := noise(99999), runtime.NumGoroutine()
	taken := 0
	for i := range len(all) - 40 {
		b := []byte(all[i : i+i%40])
		// Bytes that are likely where a row has a count, a type or a length.
		for j := range b {
			if (i+j)%3 > 0 {
				b[j] %= 3
			}
		}
		s := string(b)
		r, rest, why := value.Take(s)
		if why != api.OK {
			wantTake(t, s, nil, "", api.ErrForm)
			continue
		}
		taken++
		wantTake(t, s, r, rest, api.OK)
		if e, no := value.Encode(r); e+rest != s || no != api.OK {
			t.Errorf("Take of %x: %s, rest %x", s, show(r), rest)
		}
	}
	if taken < 999 {
		t.Errorf("only %d rows", taken)
	}
	if n := runtime.NumGoroutine(); n > before {
		t.Errorf("%d goroutines are left", n-before)
	}
}

// roomy is r with spare capacity, in which a mark stands behind its end.
func roomy(r []api.Value) []api.Value {
	return append(slices.Clone(r), slices.Repeat(row("mark"), 12)...)[:len(r)]
}

// spoil changes all of a row, up to its capacity.
func spoil(r []api.Value) {
	for i := range r[:cap(r)] {
		r[:cap(r)][i] = text("spoilt")
	}
}

// 3.3, P2: arguments are as they were, also behind their ends, and no result changes with an argument, or with another result.
func TestNewMemory(t *testing.T) {
	for i, r := range append(valid(), wrong()...) {
		a, cols := roomy(r), rise(len(r))
		rows := [][]api.Value{a}
		if i%2 == 0 {
			rows = [][]api.Value{a, nil, {}}
		}
		given := slices.Clone(rows)
		whole := slices.Clone(a[:cap(a)])
		picked, why := value.Cols(a, cols...)
		again, _ := value.Cols(a, cols...)
		joined, no := value.Join(rows...)
		more, _ := value.Join(rows...)
		value.Encode(a)
		value.Check(a)
		value.Rows(a, a)
		if !slices.Equal(a[:cap(a)], whole) || !slices.Equal(cols, rise(len(r))) || !slices.EqualFunc(rows, given, slices.Equal) {
			t.Fatalf("%s: an argument was changed", show(r))
		}
		if why != no {
			t.Errorf("%s: errors %d and %d", show(r), why, no)
		}
		if why != api.OK {
			continue
		}
		spoil(again)
		spoil(more)
		if !slices.Equal(a[:cap(a)], whole) {
			t.Errorf("%s: a result shares memory with an argument", show(r))
		}
		spoil(a)
		wantRow(t, "Cols", picked, why, r, api.OK)
		wantRow(t, "Join", joined, no, r, api.OK)
		one, _, _ := value.Take(encoded(r))
		two, _, _ := value.Take(encoded(r))
		spoil(two)
		wantRow(t, "Take", one, api.OK, r, api.OK)
	}
}

func rise(n int) []int {
	var l []int
	for i := range n {
		l = append(l, i)
	}
	return l
}
