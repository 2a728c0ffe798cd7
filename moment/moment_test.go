package moment_test

import (
	"math"
	"strconv"
	"testing"

	"freshet/api"
	"freshet/moment"
)

// maxNumber is written out, as the limit is itself part of what is tested.
const maxNumber = 4611686018427387904

func at(epoch, first, second uint64) api.Time {
	return api.Time{Epoch: epoch, Loop: [2]uint64{first, second}}
}

// cube is all times of three numbers out of some rising ones, in ascending linear order.
func cube(numbers ...uint64) []api.Time {
	var l []api.Time
	for _, a := range numbers {
		for _, b := range numbers {
			for _, c := range numbers {
				l = append(l, at(a, b, c))
			}
		}
	}
	return l
}

// times is those of small numbers, and those of great ones, valid or not, in which differences would go astray.
func times() [][]api.Time {
	return [][]api.Time{cube(0, 1, 2), cube(1, 9, 10, 255, 256), cube(0, maxNumber, maxNumber+1, math.MaxUint64)}
}

func show(l ...api.Time) string {
	s := ""
	for _, t := range l {
		s += "(" + strconv.FormatUint(t.Epoch, 10) + "; " + strconv.FormatUint(t.Loop[0], 10) + ", " + strconv.FormatUint(t.Loop[1], 10) + ")"
	}
	return s
}

// 4.1
func TestCheck(t *testing.T) {
	for _, x := range []struct {
		l    []api.Time
		want api.Errno
	}{
		{nil, api.OK},
		{[]api.Time{{}}, api.OK},
		{[]api.Time{at(maxNumber, maxNumber, maxNumber)}, api.OK},
		{cube(0, 1, maxNumber), api.OK},
		{[]api.Time{at(0, maxNumber+1, 0)}, api.ErrRange},
		{[]api.Time{at(0, 0, maxNumber+1)}, api.ErrRange},
		{[]api.Time{at(maxNumber+1, 0, 0)}, api.ErrRange},
		{[]api.Time{at(maxNumber, maxNumber, maxNumber+1)}, api.ErrRange},
		{[]api.Time{at(math.MaxUint64, 0, 0)}, api.ErrRange},
		{[]api.Time{at(0, math.MaxUint64, 0)}, api.ErrRange},
		{[]api.Time{at(0, 0, math.MaxUint64)}, api.ErrRange},
		{[]api.Time{at(0, 0, 1<<63)}, api.ErrRange},
		{[]api.Time{{}, at(0, 0, maxNumber+1)}, api.ErrRange},
		{[]api.Time{at(0, maxNumber+1, 0), {}}, api.ErrRange},
		{[]api.Time{{}, at(maxNumber+1, 0, 0), at(1, 2, 3)}, api.ErrRange},
	} {
		if why := moment.Check(x.l...); why != x.want {
			t.Errorf("Check of %s: error %d, want %d", show(x.l...), why, x.want)
		}
	}
}

// below is the order of times as it is written down.
func below(a, b api.Time) bool {
	return a.Epoch <= b.Epoch && a.Loop[0] <= b.Loop[0] && a.Loop[1] <= b.Loop[1]
}

// 4.1
func TestAhead(t *testing.T) {
	for _, x := range []struct {
		a, b api.Time
		want bool
	}{
		{at(1, 2, 3), at(1, 2, 3), true},
		{at(1, 2, 3), at(2, 1, 3), false},
		{at(2, 1, 3), at(1, 2, 3), false},
		{at(1, 2, 3), at(2, 2, 3), true},
		{at(1, 2, 3), at(1, 3, 3), true},
		{at(1, 2, 3), at(1, 2, 4), true},
		{at(1, 2, 3), at(0, 2, 3), false},
		{at(1, 2, 3), at(1, 1, 3), false},
		{at(1, 2, 3), at(1, 2, 2), false},
		{at(0, 0, 1), at(9, 9, 0), false},
		{at(0, 0, 0), at(math.MaxUint64, math.MaxUint64, math.MaxUint64), true},
		{at(math.MaxUint64, 0, 0), at(0, math.MaxUint64, math.MaxUint64), false},
	} {
		if ok := moment.Ahead(x.a, x.b); ok != x.want {
			t.Errorf("Ahead of %s: %t", show(x.a, x.b), ok)
		}
	}
	for _, l := range times() {
		for _, a := range l {
			for _, b := range l {
				if ok := moment.Ahead(a, b); ok != below(a, b) {
					t.Errorf("Ahead of %s: %t", show(a, b), ok)
				}
			}
		}
	}
}

// 4.1, 4.4
func TestCompare(t *testing.T) {
	for _, x := range []struct {
		a, b api.Time
		want int
	}{
		{at(1, 2, 3), at(2, 1, 3), -1},
		{at(1, 2, 3), at(1, 2, 2), 1},
		{at(1, 2, 3), at(1, 2, 3), 0},
		{at(1, 2, 3), at(1, 3, 2), -1},
		{at(1, 9, 9), at(2, 0, 0), -1},
	} {
		if c := moment.Compare(x.a, x.b); c != x.want {
			t.Errorf("Compare of %s: %d, want %d", show(x.a, x.b), c, x.want)
		}
	}
	for _, l := range times() {
		for i, a := range l {
			for j, b := range l {
				c := moment.Compare(a, b)
				if want := min(max(i-j, -1), 1); c != want {
					t.Errorf("Compare of %s: %d, want %d", show(a, b), c, want)
				}
				if a != b && moment.Ahead(a, b) && c != -1 {
					t.Errorf("%s: at or before, but Compare is %d", show(a, b), c)
				}
			}
		}
	}
}

// 4.1
func TestLubAndGlb(t *testing.T) {
	for _, x := range []struct {
		l        []api.Time
		lub, glb api.Time
	}{
		{nil, api.Time{}, api.Time{}},
		{[]api.Time{at(1, 2, 3)}, at(1, 2, 3), at(1, 2, 3)},
		{[]api.Time{at(1, 2, 0), at(0, 3, 1)}, at(1, 3, 1), at(0, 2, 0)},
		{[]api.Time{at(0, 3, 1), at(1, 2, 0)}, at(1, 3, 1), at(0, 2, 0)},
		{[]api.Time{at(1, 0, 2), at(2, 0, 1)}, at(2, 0, 2), at(1, 0, 1)},
		{[]api.Time{at(5, 6, 7), at(5, 6, 7)}, at(5, 6, 7), at(5, 6, 7)},
		{[]api.Time{at(1, 5, 9), at(9, 1, 5), at(5, 9, 1)}, at(9, 9, 9), at(1, 1, 1)},
		{[]api.Time{at(5, 5, 5), at(4, 5, 5), at(5, 3, 5), at(5, 5, 2)}, at(5, 5, 5), at(4, 3, 2)},
		{[]api.Time{at(5, 5, 5), at(6, 5, 5), at(5, 7, 5), at(5, 5, 8)}, at(6, 7, 8), at(5, 5, 5)},
		{[]api.Time{at(maxNumber, 0, math.MaxUint64), at(maxNumber+1, 1, 0)}, at(maxNumber+1, 1, math.MaxUint64), at(maxNumber, 0, 0)},
	} {
		if lub := moment.Lub(x.l...); lub != x.lub {
			t.Errorf("Lub of %s: %s, want %s", show(x.l...), show(lub), show(x.lub))
		}
		if glb := moment.Glb(x.l...); glb != x.glb {
			t.Errorf("Glb of %s: %s, want %s", show(x.l...), show(glb), show(x.glb))
		}
	}
}

// lattice holds the bounds of times against each time of all.
func lattice(t *testing.T, all []api.Time, l ...api.Time) {
	t.Helper()
	lub, glb := moment.Lub(l...), moment.Glb(l...)
	for _, x := range all {
		above, under := true, true
		for _, y := range l {
			above, under = above && below(y, x), under && below(x, y)
		}
		if below(lub, x) != above {
			t.Fatalf("Lub of %s: %s, but for %s", show(l...), show(lub), show(x))
		}
		if below(x, glb) != under {
			t.Fatalf("Glb of %s: %s, but for %s", show(l...), show(glb), show(x))
		}
	}
}

// 4.5
func TestLattice(t *testing.T) {
	for _, all := range times() {
		for _, a := range all {
			lattice(t, all, a)
			for _, b := range all {
				lattice(t, all, a, b)
			}
		}
	}
	all := cube(0, 1, 2)
	for _, a := range all {
		for _, b := range all {
			for _, c := range all {
				lattice(t, all, a, b, c)
			}
		}
	}
}
