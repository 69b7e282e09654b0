package parade

import (
	"iter"
	"math"

	"bateria/api"
)

// The ends of a pace.
const (
	low = iota
	high
	bothEnds
)

// ends are both ends of a pace.
type ends [bothEnds]int

func endsOf(pace api.Span) ends { return ends{low: pace.Lo, high: pace.Hi} }

// truth is a school whose true paces are known.
type truth struct {
	wings  []api.Wing
	starts []int
	paces  [api.MaxWings]int
}

// allAt is the truth in which all wings go at that end of their paces.
func allAt(s api.School, starts []int, end int) truth {
	t := truth{wings: s.Wings, starts: starts}
	for i, w := range s.Wings {
		t.paces[i] = endsOf(w.Pace)[end]
	}
	return t
}

// apart is the truth in which a wing goes at that end of its pace, and all others at the other end.
func apart(s api.School, starts []int, wing, end int) truth {
	t := allAt(s, starts, low+high-end)
	t.paces[wing] = endsOf(s.Wings[wing].Pace)[end]
	return t
}

// upTo hands out a wing and those before it, from the last one to the first one, each with how far its front is before the front of that wing if none leaves a gap.
func upTo(wings []api.Wing, wing int) iter.Seq2[int, int] {
	return func(yield func(int, int) bool) {
		distance := 0
		for i := wing; i >= 0; i-- {
			if i < wing {
				distance += wings[i].Length
			}
			if !yield(i, distance) {
				return
			}
		}
	}
}

// front is the place of the front of a wing.
func (t truth) front(wing, second int) int {
	place := math.MaxInt
	for i, distance := range upTo(t.wings, wing) {
		place = min(place, t.paces[i]*(second-t.starts[i])-distance)
	}
	return place
}

// gap is the gap of a wing that is not the first one.
func (t truth) gap(wing, second int) int {
	tail := t.front(wing-1, second) - t.wings[wing-1].Length
	return tail - t.front(wing, second)
}

// passes is the second in which a wing passes a place.
func (t truth) passes(wing, place int) int {
	second := t.starts[wing]
	for i, distance := range upTo(t.wings, wing) {
		second = max(second, t.starts[i]+dividedUp(place+distance, t.paces[i]))
	}
	return second
}

// leaves is the second in which the tail of a wing passes a place.
func (t truth) leaves(wing, place int) int {
	return t.passes(wing, place+t.wings[wing].Length)
}

// dividedUp is a quotient of numbers that are not below 0, rounded up.
func dividedUp(n, by int) int { return (n + by - 1) / by }
