package diff_test

import (
	"math"
	"math/big"
	"slices"
	"testing"

	"freshet/api"
	"freshet/diff"
)

// greatest and least are the numbers at the ends.
const (
	greatest = math.MaxInt64
	least    = math.MinInt64
)

// fit is a number of any size as an answer.
func fit(n *big.Int) (int64, api.Errno) {
	if !n.IsInt64() {
		return 0, api.ErrOver
	}
	return n.Int64(), api.OK
}

// added is the sum of numbers as it is written down.
func added(l ...int64) (int64, api.Errno) {
	s := new(big.Int)
	for _, n := range l {
		s.Add(s, big.NewInt(n))
	}
	return fit(s)
}

// edges is numbers at which sums, products and their words turn.
func edges() []int64 {
	var l []int64
	for _, n := range []int64{0, 1 << 31, 1 << 32, 1 << 62, greatest, 3037000499, 3037000500, 4294967297, 12345678912345} {
		for _, d := range []int64{-2, -1, 0, 1, 2} {
			l = append(l, n+d, -(n + d))
		}
	}
	slices.Sort(l)
	return slices.Compact(l)
}

func wantNumber(t *testing.T, what string, l []int64, n int64, why api.Errno, want int64, no api.Errno) {
	t.Helper()
	if n != want || why != no {
		t.Errorf("%s of %d: %d, error %d; want %d, error %d", what, l, n, why, want, no)
	}
}

// 5.1
func TestSum(t *testing.T) {
	for _, x := range []struct {
		l    []int64
		want int64
		no   api.Errno
	}{
		{nil, 0, api.OK},
		{[]int64{5}, 5, api.OK},
		{[]int64{-5}, -5, api.OK},
		{[]int64{greatest}, greatest, api.OK},
		{[]int64{least}, least, api.OK},
		{[]int64{1, 2, -7}, -4, api.OK},
		{[]int64{greatest, greatest, least, least, 3}, 1, api.OK},
		{[]int64{greatest, 1, -1}, greatest, api.OK},
		{[]int64{least, -1, 1}, least, api.OK},
		{[]int64{greatest, least}, -1, api.OK},
		{[]int64{greatest, 1}, 0, api.ErrOver},
		{[]int64{1, greatest}, 0, api.ErrOver},
		{[]int64{least, -1}, 0, api.ErrOver},
		{[]int64{-1, least}, 0, api.ErrOver},
		{[]int64{greatest, greatest}, 0, api.ErrOver},
		{[]int64{least, least}, 0, api.ErrOver},
		// Sums of which the lower word alone is small.
		{[]int64{greatest, greatest, 2}, 0, api.ErrOver},
		{[]int64{greatest, greatest, 3}, 0, api.ErrOver},
		{[]int64{least, least, 5}, 0, api.ErrOver},
		{[]int64{least, least, greatest}, 0, api.ErrOver},
		{[]int64{least, least, greatest, 1}, least, api.OK},
	} {
		n, why := diff.Sum(x.l...)
		wantNumber(t, "Sum", x.l, n, why, x.want, x.no)
	}
	for _, a := range edges() {
		for _, b := range edges() {
			n, why := diff.Sum(a, b)
			want, no := added(a, b)
			wantNumber(t, "Sum", []int64{a, b}, n, why, want, no)
		}
	}
}

// 5.1: the partial sums are far from what a word, or two of them added up, would hold.
func TestLongSum(t *testing.T) {
	many := 1 << 17
	for _, x := range []struct {
		first, second int64
		more          []int64
	}{
		{greatest, least, []int64{int64(many)}},
		{greatest, least, []int64{greatest}},
		{least, greatest, []int64{least}},
		{least, greatest, []int64{greatest, int64(many)}},
		{greatest, greatest, nil},
		{least, least, nil},
		{greatest, -greatest, []int64{greatest, 1}},
		{greatest, -greatest, []int64{least}},
		{-1, 1, []int64{7}},
	} {
		l := slices.Concat(slices.Repeat([]int64{x.first}, many), x.more, slices.Repeat([]int64{x.second}, many))
		n, why := diff.Sum(l...)
		want, no := added(l...)
		wantNumber(t, "Sum", []int64{x.first, x.second, int64(many)}, n, why, want, no)
	}
}

// orders calls f with each order of l.
func orders(l []int64, k int, f func([]int64)) {
	if k == len(l) {
		f(l)
	}
	for i := k; i < len(l); i++ {
		l[k], l[i] = l[i], l[k]
		orders(l, k+1, f)
		l[k], l[i] = l[i], l[k]
	}
}

// 5.6
func TestSumInAnyOrder(t *testing.T) {
	for _, l := range [][]int64{
		{greatest, 1, -1},
		{greatest, greatest, least, least, 3},
		{least, least, greatest, greatest, 1},
		{greatest, greatest, greatest, least, least, -1},
		{least, -1, -1, 1, 1},
		{greatest, greatest, 2, 1},
		{1 << 62, 1 << 62, -1, 0, -1 << 62},
		{1 << 62, 1 << 62, 1 << 62, 1 << 62},
	} {
		want, no := added(l...)
		orders(l, 0, func(l []int64) {
			n, why := diff.Sum(l...)
			wantNumber(t, "Sum", l, n, why, want, no)
		})
	}
}

// 5.1
func TestTimes(t *testing.T) {
	for _, x := range []struct {
		a, b, want int64
		no         api.Errno
	}{
		{0, 0, 0, api.OK},
		{6, -7, -42, api.OK},
		{-6, -7, 42, api.OK},
		{0, least, 0, api.OK},
		{least, 1, least, api.OK},
		{1, least, least, api.OK},
		{greatest, -1, -greatest, api.OK},
		{least / 2, 2, least, api.OK},
		{1 << 31, -1 << 32, least, api.OK},
		{least, -1, 0, api.ErrOver},
		{-1, least, 0, api.ErrOver},
		{1 << 32, 1 << 31, 0, api.ErrOver},
		{1 << 32, 1 << 32, 0, api.ErrOver},
		{-1 << 32, -1 << 31, 0, api.ErrOver},
		{least, least, 0, api.ErrOver},
		{least, 2, 0, api.ErrOver},
		{greatest, greatest, 0, api.ErrOver},
		{greatest, 2, 0, api.ErrOver},
		{3, 6148914691236517206, 0, api.ErrOver}, // the lower word of the product is 2
	} {
		n, why := diff.Times(x.a, x.b)
		wantNumber(t, "Times", []int64{x.a, x.b}, n, why, x.want, x.no)
	}
	for _, a := range edges() {
		for _, b := range edges() {
			n, why := diff.Times(a, b)
			want, no := fit(new(big.Int).Mul(big.NewInt(a), big.NewInt(b)))
			wantNumber(t, "Times", []int64{a, b}, n, why, want, no)
		}
	}
}
