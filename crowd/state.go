package crowd

import (
	"iter"

	"bateria/api"
)

// What a state says of a street.
const (
	undecided = 0
	open      = 1
	shut      = 2
)

// state says of each street whether it is open, shut or undecided. It is an array, so that a state in which one more is decided is a copy with a change.
type state [api.MaxStreets]int

// decided is the state in which these streets are shut, and all others are open.
func decided(closed []int) state {
	s := state{}
	for street := range s {
		s[street] = open
	}
	for _, street := range closed {
		s[street] = shut
	}
	return s
}

// with is the state with something else said of a street.
func (s state) with(street, is int) state {
	s[street] = is
	return s
}

// isUndecided says whether a street is undecided: nothing changes if it becomes so.
func (s state) isUndecided(street int) bool { return s.with(street, undecided) == s }

// count is how many streets the state says this of.
func (s state) count(is int) int {
	count := 0
	for _, other := range s {
		if other == is {
			count++
		}
	}
	return count
}

// choices hands out all lists of at most so many of the streets, the shorter ones first, those of one length in lexicographic order. The memory of a list is used again for the next ones.
func choices(streets, most int) iter.Seq[[]int] {
	return func(yield func([]int) bool) {
		var choose func(begun []int, next, more int) bool
		choose = func(begun []int, next, more int) bool {
			if more == 0 {
				return yield(begun)
			}
			for street := next; street+more <= streets; street++ {
				if !choose(append(begun, street), street+1, more-1) {
					return false
				}
			}
			return true
		}
		for many := range min(streets, most) + 1 {
			if !choose(nil, 0, many) {
				return
			}
		}
	}
}
