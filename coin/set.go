package coin

import (
	"iter"
	"math/bits"
)

// set is a set of uses, of funds or of bills: a bit for each of them. There are never more than 8.
type set uint8

func (s *set) add(n int) { *s |= 1 << n }

func (s set) has(n int) bool { return s>>n&1 == 1 }

// numbers hands out the numbers in a set, ascending.
func (s set) numbers() iter.Seq[int] {
	return func(yield func(int) bool) {
		for rest := s; rest != 0; rest &= rest - 1 {
			if !yield(bits.TrailingZeros8(uint8(rest))) {
				return
			}
		}
	}
}

// setsOf hands out the sets of so many of the numbers below a bound, in lexicographic order.
func setsOf(size, bound int) iter.Seq[set] {
	return func(yield func(set) bool) {
		var choose func(begun set, next, more int) bool
		choose = func(begun set, next, more int) bool {
			if more == 0 {
				return yield(begun)
			}
			for n := next; n+more <= bound; n++ {
				with := begun
				with.add(n)
				if !choose(with, n+1, more-1) {
					return false
				}
			}
			return true
		}
		choose(0, 0, size)
	}
}

// sum adds up a number of each thing.
func sum[T any](things iter.Seq[T], number func(T) int) int {
	total := 0
	for thing := range things {
		total += number(thing)
	}
	return total
}
