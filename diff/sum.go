package diff

import (
	"math/bits"
	"slices"

	"freshet/api"
)

// sum is that of integers, as one number of two words: no partial sum is too great for it.
type sum struct {
	high, low uint64
}

// of is the sum of one number.
func of(n int64) sum {
	return sum{uint64(n >> 63), uint64(n)}
}

func (s *sum) add(t sum) {
	var carry uint64
	s.low, carry = bits.Add64(s.low, t.low, 0)
	s.high, _ = bits.Add64(s.high, t.high, carry)
}

// number is the sum in one word, or ErrOver if it does not fit.
func (s sum) number() (int64, api.Errno) {
	n := int64(s.low)
	if s.high != uint64(n>>63) {
		return 0, api.ErrOver
	}
	return n, api.OK
}

// line is an item, and the sum of what is told of it.
type line[T any] struct {
	sum
	item T
}

// total returns the items of lines in order, each once, as with makes it of the item and the sum of its lines; those of which it is 0 are left out.
func total[T any](lines []line[T], order func(a, b T) int, with func(T, int64) T) ([]T, api.Errno) {
	slices.SortFunc(lines, func(a, b line[T]) int { return order(a.item, b.item) })
	var l []T
	for i := 0; i < len(lines); {
		x := lines[i]
		for i++; i < len(lines) && order(x.item, lines[i].item) == 0; i++ {
			x.add(lines[i].sum)
		}
		n, why := x.number()
		if why != api.OK {
			return nil, why
		}
		if n != 0 {
			l = append(l, with(x.item, n))
		}
	}
	return l, api.OK
}

// Sum returns the sum of numbers, or ErrOver if it does not fit; partial sums need not.
func Sum(l ...int64) (int64, api.Errno) {
	var s sum
	for _, n := range l {
		s.add(of(n))
	}
	return s.number()
}

// Times returns the product of two numbers, or ErrOver if it does not fit.
func Times(a, b int64) (int64, api.Errno) {
	var p sum
	p.high, p.low = bits.Mul64(uint64(a), uint64(b))
	// As an unsigned word a number below 0 is greater by 2^64, so that the product is greater by 2^64 times the other one.
	p.high -= (of(a).high & uint64(b)) + (of(b).high & uint64(a))
	return p.number()
}
