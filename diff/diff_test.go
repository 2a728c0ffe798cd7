package diff_test

import (
	"math"
	"strconv"
	"strings"
	"testing"

	"freshet/api"
	"freshet/diff"
)

// The limits are written out, as they are themselves part of what is tested.
const (
	maxCols   = 8
	maxText   = 64
	maxNumber = 4611686018427387904
)

// row has a number for each integer, and a text for each string.
func row(l ...any) []api.Value {
	var r []api.Value
	for _, x := range l {
		switch x := x.(type) {
		case int:
			r = append(r, api.Value{N: int64(x)})
		case string:
			r = append(r, api.Value{IsText: true, S: x})
		}
	}
	return r
}

// at is an epoch and, if they are given, rounds.
func at(l ...uint64) api.Time {
	l = append(l, 0, 0)
	return api.Time{Epoch: l[0], Loop: [2]uint64{l[1], l[2]}}
}

func update(key, row []api.Value, t api.Time, n int64) api.Update {
	return api.Update{Key: key, Row: row, Time: t, Diff: n}
}

// up is an update of a row of one number, with no key, at an epoch.
func up(n int, epoch uint64, d int64) api.Update {
	return update(nil, row(n), at(epoch), d)
}

// example is the updates of the document's example.
func example() []api.Update {
	return []api.Update{up(2, 0, 1), up(2, 0, -1), up(1, 5, 2), up(1, 3, 1), up(1, 5, 1)}
}

func showRow(r []api.Value) string {
	s := "("
	for _, v := range r {
		if v.IsText {
			s += "text "
		}
		s += strconv.FormatInt(v.N, 10) + " " + strconv.Quote(v.S) + ";"
	}
	return s + ")"
}

func showUpdate(u api.Update) string {
	s := showRow(u.Key) + showRow(u.Row)
	for _, n := range []uint64{u.Time.Epoch, u.Time.Loop[0], u.Time.Loop[1]} {
		s += " " + strconv.FormatUint(n, 10)
	}
	return s + ": " + strconv.FormatInt(u.Diff, 10)
}

func showCount(c api.Count) string {
	return showRow(c.Row) + ": " + strconv.FormatInt(c.N, 10)
}

func show[T any](l []T, one func(T) string) string {
	var s []string
	for _, x := range l {
		s = append(s, one(x))
	}
	return "[" + strings.Join(s, ", ") + "]"
}

func wantUpdates(t *testing.T, what string, l []api.Update, why api.Errno, want []api.Update, no api.Errno) {
	t.Helper()
	if s, w := show(l, showUpdate), show(want, showUpdate); why != no || s != w {
		t.Errorf("%s: %s, error %d; want %s, error %d", what, s, why, w, no)
	}
}

func wantCounts(t *testing.T, what string, l []api.Count, why api.Errno, want []api.Count, no api.Errno) {
	t.Helper()
	if s, w := show(l, showCount), show(want, showCount); why != no || s != w {
		t.Errorf("%s: %s, error %d; want %s, error %d", what, s, why, w, no)
	}
}

// wide is n numbers.
func wide(n int) []api.Value {
	return make([]api.Value, n)
}

func long(n int) []api.Value {
	return row(strings.Repeat("x", n))
}

// wrongRows is rows of which each is wrong in one way.
func wrongRows() [][]api.Value {
	return [][]api.Value{wide(maxCols + 1), long(maxText + 1), {{N: 1, S: "x"}}, {{IsText: true, N: 1}}, {{}, {S: "x"}}}
}

func wrongTimes() []api.Time {
	return []api.Time{at(maxNumber + 1), at(0, maxNumber+1), at(0, 0, maxNumber+1), at(math.MaxUint64), at(0, 0, math.MaxUint64)}
}

// right is updates at the edge of what is valid.
func right() []api.Update {
	last := at(maxNumber, maxNumber, maxNumber)
	return []api.Update{{}, up(1, 0, 0), update(wide(maxCols), long(maxText), last, least), update(long(maxText), wide(maxCols), last, greatest), update(row("", -1), row(), at(0, 0, 1), -1)}
}

// wrong is lists of updates that are not valid, with the error of each.
func wrong() map[api.Errno][][]api.Update {
	form, late := [][]api.Update{}, [][]api.Update{}
	u := up(1, 2, 3)
	for _, r := range wrongRows() {
		key, row := update(r, u.Row, u.Time, 1), update(u.Key, r, u.Time, 1)
		form = append(form, []api.Update{key}, []api.Update{row}, []api.Update{u, u, key}, []api.Update{row, u}, []api.Update{u, row, up(0, maxNumber+1, 0)})
		for _, x := range wrongTimes() {
			// In one update the rows come ahead of the time.
			form = append(form, []api.Update{update(r, u.Row, x, 1)}, []api.Update{update(u.Key, r, x, 0)})
			// Of several the first one counts.
			late = append(late, []api.Update{update(u.Key, u.Row, x, 1), key}, []api.Update{u, update(u.Key, u.Row, x, 0), row, key})
			form = append(form, []api.Update{key, update(u.Key, u.Row, x, 1)})
		}
	}
	for _, x := range wrongTimes() {
		late = append(late, []api.Update{update(u.Key, u.Row, x, 1)}, []api.Update{u, u, update(nil, nil, x, 0)})
	}
	return map[api.Errno][][]api.Update{api.ErrForm: form, api.ErrRange: late}
}

// 5.1
func TestCheck(t *testing.T) {
	if why := diff.Check(nil); why != api.OK {
		t.Errorf("of none: error %d", why)
	}
	if why := diff.Check(append(right(), example()...)); why != api.OK {
		t.Errorf("of valid ones: error %d", why)
	}
	for _, u := range right() {
		if why := diff.Check([]api.Update{u}); why != api.OK {
			t.Errorf("%s: error %d", showUpdate(u), why)
		}
	}
	for want, lists := range wrong() {
		for _, l := range lists {
			if why := diff.Check(l); why != want {
				t.Errorf("%s: error %d, want %d", show(l, showUpdate), why, want)
			}
		}
	}
}

// ascending is updates in strictly ascending order: by Key, then by Row, then by Time.
func ascending() []api.Update {
	rows := [][]api.Value{nil, row(-1), row(1), row(1, 0), row(1, "a"), row(9), row(""), row("ab"), row("b")}
	times := []api.Time{{}, at(0, 0, 1), at(0, 0, 9), at(0, 1, 0), at(1), at(2, 0, 5), at(2, 5, 0), at(maxNumber)}
	var l []api.Update
	for _, k := range rows {
		for _, r := range rows {
			for i, x := range times {
				l = append(l, update(k, r, x, int64(i%2)-9))
			}
		}
	}
	return l
}

// 5.1
func TestCompare(t *testing.T) {
	l := ascending()
	for i, a := range l {
		for j, b := range l {
			if c, want := diff.Compare(a, b), min(max(i-j, -1), 1); c != want {
				t.Fatalf("Compare of %s: %d, want %d", show([]api.Update{a, b}, showUpdate), c, want)
			}
		}
	}
	for _, n := range []int64{least, -1, 0, 1, greatest} {
		if c := diff.Compare(up(1, 2, 3), up(1, 2, n)); c != 0 {
			t.Errorf("Compare of the Diffs 3 and %d: %d", n, c)
		}
		if c := diff.Compare(up(1, 2, n), up(1, 3, 0)); c != -1 {
			t.Errorf("Compare of the Diffs %d and 0: %d", n, c)
		}
	}
	// Updates that are not valid have an order, too.
	if c := diff.Compare(update(wide(99), nil, at(math.MaxUint64), 1), update(wide(99), nil, at(0), 1)); c != 1 {
		t.Errorf("Compare of updates that are not valid: %d", c)
	}
}

// 5.1
func TestEven(t *testing.T) {
	for _, x := range []struct {
		l    []api.Update
		want bool
	}{
		{nil, true},
		{[]api.Update{}, true},
		{[]api.Update{up(1, 0, 1)}, true},
		{[]api.Update{up(1, 0, least), up(1, 1, greatest), up(2, 0, -1)}, true},
		{ascending(), true},
		{[]api.Update{up(1, 0, 0)}, false},
		{[]api.Update{up(0, 0, 1), up(1, 0, 0)}, false},
		{[]api.Update{up(0, 0, 0), up(1, 0, 1)}, false},
		{[]api.Update{up(2, 0, 1), up(1, 0, 1)}, false},
		{[]api.Update{up(1, 1, 1), up(1, 0, 1)}, false},
		{[]api.Update{up(1, 0, 1), up(1, 0, 1)}, false},
		{[]api.Update{up(1, 0, 1), up(1, 0, -1)}, false},
		{[]api.Update{up(0, 0, 1), up(1, 0, 1), up(1, 0, 1)}, false},
		{[]api.Update{update(row(2), row(1), at(0), 1), update(row(1), row(2), at(1), 1)}, false},
		{[]api.Update{update(nil, nil, at(0, 1), 1), update(nil, nil, at(0, 0, 2), 1)}, false},
		{example(), false},
	} {
		if ok := diff.Even(x.l); ok != x.want {
			t.Errorf("Even of %s: %t", show(x.l, showUpdate), ok)
		}
	}
	l := ascending()
	for i := range len(l) - 1 {
		l[i], l[i+1] = l[i+1], l[i]
		if diff.Even(l) {
			t.Fatalf("Even with %s and %s", showUpdate(l[i]), showUpdate(l[i+1]))
		}
		l[i], l[i+1] = l[i+1], l[i]
	}
	for _, lists := range wrong() {
		for _, l := range lists {
			if diff.Even(l) {
				t.Errorf("Even of %s", show(l, showUpdate))
			}
		}
	}
	for _, x := range wrongTimes() {
		if diff.Even([]api.Update{up(0, 0, 1), update(nil, row(1), x, 1)}) {
			t.Errorf("Even with the epoch %d", x.Epoch)
		}
	}
	for _, r := range wrongRows() {
		if diff.Even([]api.Update{update(nil, r, at(0), 1)}) || diff.Even([]api.Update{update(r, nil, at(0), 1)}) {
			t.Errorf("Even with %s", showRow(r))
		}
	}
}
