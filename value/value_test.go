package value_test

import (
	"math"
	"slices"
	"strconv"
	"strings"
	"testing"

	"freshet/api"
	"freshet/value"
)

// The limits are written out, as they are themselves part of what is tested.
const (
	maxCols = 8
	maxText = 64
)

func number(n int64) api.Value {
	return api.Value{N: n}
}

func text(s string) api.Value {
	return api.Value{IsText: true, S: s}
}

// row has a number for each integer, and a text for each string.
func row(l ...any) []api.Value {
	var r []api.Value
	for _, x := range l {
		switch x := x.(type) {
		case int:
			r = append(r, number(int64(x)))
		case string:
			r = append(r, text(x))
		}
	}
	return r
}

// rising is a row of the numbers from 0 on, n of them.
func rising(n int) []api.Value {
	var r []api.Value
	for i := range n {
		r = append(r, number(int64(i)))
	}
	return r
}

// example is the row of the document's examples.
func example() []api.Value {
	return row(-1, "é")
}

// ascending is valid values in strictly ascending order.
func ascending() []api.Value {
	var l []api.Value
	for _, n := range []int64{math.MinInt64, math.MinInt64 + 1, -1 << 32, -65, -64, -2, -1, 0, 1, 2, 9, 10, 64, 1 << 32, math.MaxInt64 - 1, math.MaxInt64} {
		l = append(l, number(n))
	}
	long := strings.Repeat("\xff", maxText)
	for _, s := range []string{"", "\x00", "\x00\x00", "\x01", "10", "9", "B", "a", "a\x00", "aa", "ab", "b", "ba", "z", "\x7f", "\x80", "é", "\xff", long[1:], long} {
		l = append(l, text(s))
	}
	return l
}

func valid() [][]api.Value {
	wide := slices.Repeat(row(strings.Repeat("x", maxText)), maxCols)
	l := [][]api.Value{nil, {}, example(), rising(maxCols), wide, wide[1:], row("", 0, "", 0), ascending()[:maxCols]}
	for _, v := range ascending() {
		l = append(l, []api.Value{v}, []api.Value{v, number(7)}, []api.Value{text("x"), v}, slices.Repeat([]api.Value{v}, maxCols))
	}
	return l
}

// wrongValues is values of which each is wrong in one way.
func wrongValues() []api.Value {
	return []api.Value{
		{N: 1, S: "x"},
		{S: "x"},
		{S: "\x00"},
		{S: strings.Repeat("x", maxText+1)},
		{IsText: true, N: 1},
		{IsText: true, N: -1, S: "x"},
		{IsText: true, N: math.MinInt64, S: "x"},
		{IsText: true, S: strings.Repeat("x", maxText+1)},
		{IsText: true, S: strings.Repeat("\x00", 99999)},
	}
}

func wrong() [][]api.Value {
	l := [][]api.Value{rising(maxCols + 1), slices.Repeat(row(""), maxCols+1), rising(99)}
	for _, v := range wrongValues() {
		l = append(l, []api.Value{v}, []api.Value{number(1), v}, []api.Value{v, text("x")}, append(rising(maxCols-1), v), append([]api.Value{v}, rising(maxCols-1)...))
	}
	return l
}

func show(r []api.Value) string {
	var b strings.Builder
	b.WriteString("(")
	for i, v := range r {
		if i > 0 {
			b.WriteString(", ")
		}
		if v.IsText {
			b.WriteString("text ")
		}
		b.WriteString(strconv.FormatInt(v.N, 10) + " " + strconv.Quote(v.S))
	}
	return b.String() + ")"
}

func wantRow(t *testing.T, what string, r []api.Value, why api.Errno, want []api.Value, no api.Errno) {
	t.Helper()
	if why != no || !slices.Equal(r, want) {
		t.Errorf("%s: %s, error %d; want %s, error %d", what, show(r), why, show(want), no)
	}
}

// 3.1
func TestCheck(t *testing.T) {
	for _, r := range valid() {
		if why := value.Check(r); why != api.OK {
			t.Errorf("%s: error %d", show(r), why)
		}
	}
	for _, r := range wrong() {
		if why := value.Check(r); why != api.ErrForm {
			t.Errorf("%s: error %d", show(r), why)
		}
	}
}

// 3.1
func TestCompare(t *testing.T) {
	l := ascending()
	for i, a := range l {
		for j, b := range l {
			want := min(max(i-j, -1), 1)
			if c := value.Compare(a, b); c != want {
				t.Errorf("Compare(%s): %d, want %d", show([]api.Value{a, b}), c, want)
			}
			if c := value.Rows([]api.Value{a}, []api.Value{b}); c != want {
				t.Errorf("Rows(%s): %d, want %d", show([]api.Value{a, b}), c, want)
			}
		}
	}
}

// 3.1: of values that are not valid, too, what the other type has does not matter.
func TestCompareAnyValues(t *testing.T) {
	long := strings.Repeat("x", 99)
	for _, x := range []struct {
		a, b api.Value
		want int
	}{
		{api.Value{N: 1, S: "x"}, number(1), 0},
		{api.Value{N: 1, S: "x"}, api.Value{N: 1, S: "y"}, 0},
		{api.Value{N: 1, S: "x"}, api.Value{N: 2, S: "a"}, -1},
		{api.Value{IsText: true, N: 5, S: "a"}, text("a"), 0},
		{api.Value{IsText: true, N: 5, S: "a"}, api.Value{IsText: true, N: 4, S: "a"}, 0},
		{api.Value{IsText: true, N: 5, S: "a"}, api.Value{IsText: true, N: 4, S: "b"}, -1},
		{api.Value{IsText: true, N: 5}, number(9), 1},
		{api.Value{N: 9, S: "z"}, text(""), -1},
		{text(long), text(long), 0},
		{text(long), text(long + "x"), -1},
		{text(long + "\x00"), text(long), 1},
	} {
		a, b := []api.Value{x.a}, []api.Value{x.b}
		if c, d := value.Compare(x.a, x.b), value.Compare(x.b, x.a); c != x.want || d != -x.want {
			t.Errorf("Compare of %s and %s: %d and %d, want %d", show(a), show(b), c, d, x.want)
		}
		if c, d := value.Rows(a, b), value.Rows(b, a); c != x.want || d != -x.want {
			t.Errorf("Rows of %s and %s: %d and %d, want %d", show(a), show(b), c, d, x.want)
		}
	}
}

// 3.1: rows in strictly ascending order, among them some that are too long to be valid.
func TestRows(t *testing.T) {
	nine := append(rising(maxCols+1), text("x"))
	l := [][]api.Value{
		{}, row(math.MinInt64), row(-1, "z"), row(0), rising(2), rising(3), rising(maxCols), rising(maxCols + 1), rising(99), nine, row(0, ""),
		row(1), row(1, -5), row(1, 0), row(1, 0, -1), row(1, 0, "x"), row(1, 9), row(1, "a"), row(1, "a", 0), row(1, "b"), row(2), row(5), row(10),
		row(""), row("", 0), row("", ""), row("a", "z"), row("ab"), row("ab", 1), row("b"), row("b", "a"),
	}
	for i, a := range l {
		for j, b := range l {
			if c, want := value.Rows(a, b), min(max(i-j, -1), 1); c != want {
				t.Errorf("Rows of %s and %s: %d, want %d", show(a), show(b), c, want)
			}
		}
	}
	if c := value.Rows(nil, []api.Value{}); c != 0 {
		t.Errorf("Rows of none and none: %d", c)
	}
}

// 3.2
func TestCols(t *testing.T) {
	e := example()
	for _, x := range []struct {
		row  []api.Value
		cols []int
		want []api.Value
		no   api.Errno
	}{
		{e, []int{1, 0, 1}, row("é", -1, "é"), api.OK},
		{e, []int{0, 1}, e, api.OK},
		{e, []int{1}, row("é"), api.OK},
		{e, nil, nil, api.OK},
		{nil, nil, nil, api.OK},
		{e, make([]int, maxCols), slices.Repeat(row(-1), maxCols), api.OK},
		{rising(maxCols), []int{7, 6, 5, 4, 3, 2, 1, 0}, row(7, 6, 5, 4, 3, 2, 1, 0), api.OK},
		{e, []int{2}, nil, api.ErrRange},
		{e, []int{-1}, nil, api.ErrRange},
		{e, []int{0, 1, 2}, nil, api.ErrRange},
		{e, []int{-1, 0}, nil, api.ErrRange},
		{e, []int{math.MaxInt}, nil, api.ErrRange},
		{e, []int{math.MinInt}, nil, api.ErrRange},
		{nil, []int{0}, nil, api.ErrRange},
		{rising(maxCols), []int{maxCols}, nil, api.ErrRange},
		{e, make([]int, maxCols+1), nil, api.ErrLong},
		{e, make([]int, 99999), nil, api.ErrLong},
		{rising(maxCols), []int{0, 1, 2, 3, 4, 5, 6, 7, 0}, nil, api.ErrLong},
		{e, append(make([]int, maxCols), 2), nil, api.ErrRange},
		{e, append(make([]int, 99999), -1), nil, api.ErrRange},
		{nil, make([]int, maxCols+1), nil, api.ErrRange},
	} {
		r, why := value.Cols(x.row, x.cols...)
		wantRow(t, "Cols of "+show(x.row), r, why, x.want, x.no)
	}
	for _, w := range wrong() {
		for _, cols := range [][]int{nil, {0}, {-1}, {99}, make([]int, maxCols+1)} {
			r, why := value.Cols(w, cols...)
			wantRow(t, "Cols of "+show(w), r, why, nil, api.ErrForm)
		}
	}
}

// 3.2
func TestJoin(t *testing.T) {
	e := example()
	for _, x := range []struct {
		rows [][]api.Value
		want []api.Value
		no   api.Errno
	}{
		{nil, nil, api.OK},
		{[][]api.Value{nil, {}}, nil, api.OK},
		{[][]api.Value{e}, e, api.OK},
		{[][]api.Value{e, nil, e, {}}, row(-1, "é", -1, "é"), api.OK},
		{[][]api.Value{row(2), row("b", 1), row("a")}, row(2, "b", 1, "a"), api.OK},
		{[][]api.Value{rising(maxCols)}, rising(maxCols), api.OK},
		{[][]api.Value{rising(maxCols), {}}, rising(maxCols), api.OK},
		{[][]api.Value{rising(5), rising(3)}, row(0, 1, 2, 3, 4, 0, 1, 2), api.OK},
		{slices.Repeat([][]api.Value{row(4)}, maxCols), row(4, 4, 4, 4, 4, 4, 4, 4), api.OK},
		{make([][]api.Value, 999), nil, api.OK},
		{[][]api.Value{rising(5), rising(4)}, nil, api.ErrLong},
		{[][]api.Value{rising(maxCols), rising(1)}, nil, api.ErrLong},
		{[][]api.Value{nil, rising(1), rising(maxCols)}, nil, api.ErrLong},
		{slices.Repeat([][]api.Value{row(4)}, maxCols+1), nil, api.ErrLong},
		{slices.Repeat([][]api.Value{rising(maxCols)}, 99), nil, api.ErrLong},
	} {
		r, why := value.Join(x.rows...)
		wantRow(t, "Join", r, why, x.want, x.no)
	}
	for _, w := range wrong() {
		for _, rows := range [][][]api.Value{{w}, {w, e}, {nil, e, w}, {rising(5), rising(4), w}, {w, rising(5), rising(4)}} {
			r, why := value.Join(rows...)
			wantRow(t, "Join with "+show(w), r, why, nil, api.ErrForm)
		}
	}
}
