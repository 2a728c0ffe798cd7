package moment_test

import (
	"math"
	"runtime"
	"slices"
	"testing"

	"freshet/api"
	"freshet/moment"
)

// example is the frontier of the document's examples.
func example() []api.Time {
	return []api.Time{at(1, 2, 0), at(2, 1, 0)}
}

// lists is lists of up to three times out of few, in any order, and some longer ones.
func lists() [][]api.Time {
	few := []api.Time{at(0, 0, 1), at(0, 1, 0), at(0, 1, 1), at(0, 2, 0), at(1, 0, 0), at(1, 0, 2), at(1, 1, 1), at(2, 0, 1), at(2, 2, 2)}
	l := [][]api.Time{nil, {{}}, cube(0, 1, 2), few, {at(2, 2, 2), at(1, 2, 2), at(2, 1, 2), at(2, 2, 1), at(2, 2, 2)}}
	for _, a := range few {
		l = append(l, []api.Time{a})
		for _, b := range few {
			l = append(l, []api.Time{a, b})
			for _, c := range few {
				l = append(l, []api.Time{a, b, c})
			}
		}
	}
	return l
}

// minimal is the frontier of times as it is written down.
func minimal(l []api.Time) []api.Time {
	var f []api.Time
	for _, t := range l {
		other := func(x api.Time) bool { return x != t && below(x, t) }
		if !slices.ContainsFunc(l, other) && !slices.Contains(f, t) {
			f = append(f, t)
		}
	}
	slices.SortFunc(f, func(a, b api.Time) int {
		return slices.Compare([]uint64{a.Epoch, a.Loop[0], a.Loop[1]}, []uint64{b.Epoch, b.Loop[0], b.Loop[1]})
	})
	return f
}

// 4.2
func TestFront(t *testing.T) {
	big := uint64(math.MaxUint64)
	for _, x := range []struct {
		l, want []api.Time
	}{
		{nil, nil},
		{[]api.Time{{}}, []api.Time{{}}},
		{[]api.Time{at(2, 1, 0), at(1, 2, 0), at(2, 2, 0), at(1, 2, 0)}, example()},
		{example(), example()},
		{[]api.Time{at(1, 1, 1), at(1, 1, 1), at(1, 1, 1)}, []api.Time{at(1, 1, 1)}},
		{[]api.Time{at(1, 1, 1), at(0, 1, 1)}, []api.Time{at(0, 1, 1)}},
		{[]api.Time{at(1, 1, 1), at(1, 0, 1)}, []api.Time{at(1, 0, 1)}},
		{[]api.Time{at(1, 1, 0), at(1, 1, 1)}, []api.Time{at(1, 1, 0)}},
		{[]api.Time{at(0, 0, 2), at(1, 0, 1), at(2, 0, 0), at(1, 0, 2), at(0, 1, 1)}, []api.Time{at(0, 0, 2), at(0, 1, 1), at(1, 0, 1), at(2, 0, 0)}},
		{[]api.Time{at(3, 0, 0), at(1, 0, 5), at(1, 5, 0), at(2, 9, 9)}, []api.Time{at(1, 0, 5), at(1, 5, 0), at(3, 0, 0)}},
		{[]api.Time{at(big, 0, big), at(0, big, 0), at(maxNumber+1, 0, big), at(big, big, big)}, []api.Time{at(0, big, 0), at(maxNumber+1, 0, big)}},
		{cube(0, 1, 2), []api.Time{{}}},
		{cube(0, 1, 2)[1:], []api.Time{at(0, 0, 1), at(0, 1, 0), at(1, 0, 0)}},
	} {
		if f := moment.Front(x.l...); !slices.Equal(f, x.want) {
			t.Errorf("Front of %s: %s, want %s", show(x.l...), show(f...), show(x.want...))
		}
	}
	for _, l := range lists() {
		if f, want := moment.Front(l...), minimal(l); !slices.Equal(f, want) {
			t.Errorf("Front of %s: %s, want %s", show(l...), show(f...), show(want...))
		}
	}
}

// 4.2: any list will do for Beyond, in whatever order.
func TestBeyond(t *testing.T) {
	for _, x := range []struct {
		f    []api.Time
		t    api.Time
		want bool
	}{
		{example(), at(2, 2, 2), true},
		{example(), at(1, 1, 9), false},
		{example(), at(1, 2, 0), true},
		{example(), at(2, 1, 0), true},
		{example(), at(0, 9, 9), false},
		{example(), at(9, 0, 9), false},
		{nil, at(9, 9, 9), false},
		{nil, api.Time{}, false},
		{[]api.Time{{}}, api.Time{}, true},
		{[]api.Time{at(9, 9, 9), at(2, 2, 2), at(2, 2, 2), at(0, 0, 7)}, at(2, 3, 2), true},
		{[]api.Time{at(9, 9, 9), at(2, 2, 2), at(2, 2, 2), at(0, 0, 7)}, at(8, 1, 6), false},
		{[]api.Time{at(math.MaxUint64, 0, 0)}, at(maxNumber, 0, 0), false},
		{[]api.Time{at(maxNumber+1, 0, 0)}, at(math.MaxUint64, 0, 0), true},
	} {
		if ok := moment.Beyond(x.f, x.t); ok != x.want {
			t.Errorf("Beyond of %s and %s: %t", show(x.f...), show(x.t), ok)
		}
	}
}

// 4.2
func TestAdvance(t *testing.T) {
	for _, x := range []struct {
		t    api.Time
		f    []api.Time
		want api.Time
	}{
		{at(0, 0, 0), example(), at(1, 1, 0)},
		{at(0, 5, 1), example(), at(1, 5, 1)},
		{at(1, 0, 0), []api.Time{at(3, 0, 0)}, at(3, 0, 0)},
		{at(4, 0, 0), []api.Time{at(3, 0, 0)}, at(4, 0, 0)},
		{at(4, 1, 2), []api.Time{at(3, 2, 1)}, at(4, 2, 2)},
		{at(4, 1, 2), nil, at(4, 1, 2)},
		{at(maxNumber+1, 1, math.MaxUint64), nil, at(maxNumber+1, 1, math.MaxUint64)},
		{at(maxNumber+1, 0, 3), []api.Time{at(0, math.MaxUint64, 0)}, at(maxNumber+1, math.MaxUint64, 3)},
		{at(1, 1, 1), []api.Time{at(5, 0, 0), at(0, 5, 0), at(0, 0, 5)}, at(1, 1, 1)},
		{at(0, 0, 0), []api.Time{at(5, 1, 1), at(1, 5, 1), at(1, 1, 5)}, at(1, 1, 1)},
		// Lists that are no frontiers.
		{at(0, 0, 0), []api.Time{at(2, 2, 2), at(1, 1, 1), at(2, 2, 2)}, at(1, 1, 1)},
		{at(0, 0, 0), []api.Time{at(2, 1, 0), at(1, 2, 0), at(2, 2, 0)}, at(1, 1, 0)},
		{at(0, 0, 0), []api.Time{at(9, 9, 9), at(9, 9, 9)}, at(9, 9, 9)},
	} {
		if a := moment.Advance(x.t, x.f); a != x.want {
			t.Errorf("Advance of %s to %s: %s, want %s", show(x.t), show(x.f...), show(a), show(x.want))
		}
	}
	for _, l := range lists() {
		for _, x := range cube(0, 1, 2) {
			var lubs []api.Time
			for _, y := range l {
				lubs = append(lubs, moment.Lub(x, y))
			}
			want := moment.Glb(lubs...)
			if len(l) == 0 {
				want = x
			}
			if a := moment.Advance(x, l); a != want {
				t.Errorf("Advance of %s to %s: %s, want %s", show(x), show(l...), show(a), show(want))
			}
		}
	}
}

// 4.6
func TestAdvanced(t *testing.T) {
	all := cube(0, 1, 2, 3)
	for _, l := range lists() {
		f := moment.Front(l...)
		for _, x := range cube(0, 1, 2) {
			a := moment.Advance(x, f)
			if again := moment.Advance(a, f); again != a {
				t.Fatalf("Advance of %s to %s: %s, then %s", show(x), show(f...), show(a), show(again))
			}
			for _, y := range all {
				if moment.Beyond(f, y) && moment.Ahead(x, y) != moment.Ahead(a, y) {
					t.Fatalf("Advance of %s to %s: %s, but for %s", show(x), show(f...), show(a), show(y))
				}
			}
		}
	}
}

// 4.7: of the frontier, and of the times themselves.
func TestFrontiers(t *testing.T) {
	for _, l := range lists() {
		f := moment.Front(l...)
		for _, x := range cube(0, 1, 2, 3) {
			want := slices.ContainsFunc(l, func(y api.Time) bool { return below(y, x) })
			if moment.Beyond(f, x) != want || moment.Beyond(l, x) != want {
				t.Fatalf("Beyond of %s and %s: not %t", show(f...), show(x), want)
			}
		}
		for i, a := range f {
			for j, b := range f {
				if i != j && below(a, b) || i < j && moment.Compare(a, b) != -1 {
					t.Fatalf("Front of %s: %s", show(l...), show(f...))
				}
			}
		}
	}
}

// 4.3, P2 to P4: arguments are as they were, also behind their ends; no result changes with an argument or with another result; nothing is left of a call.
func TestNewMemory(t *testing.T) {
	before, mark := runtime.NumGoroutine(), at(7, 7, 7)
	for _, l := range lists() {
		a := append(slices.Clone(l), slices.Repeat([]api.Time{mark}, 4)...)[:len(l)]
		whole := slices.Clone(a[:cap(a)])
		f, again := moment.Front(a...), moment.Front(a...)
		want := slices.Clone(f)
		moment.Check(a...)
		moment.Lub(a...)
		moment.Glb(a...)
		moment.Beyond(a, mark)
		moment.Advance(mark, a)
		if !slices.Equal(a[:cap(a)], whole) {
			t.Fatalf("%s: an argument was changed", show(l...))
		}
		spoil(again)
		if !slices.Equal(a[:cap(a)], whole) {
			t.Errorf("Front of %s shares memory with its argument", show(l...))
		}
		spoil(a)
		if !slices.Equal(f, want) {
			t.Errorf("Front of %s: %s, then %s", show(l...), show(want...), show(f...))
		}
	}
	if n := runtime.NumGoroutine(); n > before {
		t.Errorf("%d goroutines are left", n-before)
	}
}

// spoil changes all of a list, up to its capacity.
func spoil(l []api.Time) {
	for i := range l[:cap(l)] {
		l[:cap(l)][i] = at(8, 8, 8)
	}
}
