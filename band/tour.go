package band

import (
	"iter"
	"slices"

	"bateria/api"
)

// noStreet is the street along which a band comes to its first square.
const noStreet = -1

// visit is that a band comes to a square along a street, and is there in the minutes of a span.
type visit struct {
	api.Span
	square, street int
}

func (v visit) has(minute int) bool { return within(minute, v.Lo, v.Hi) }

// meets says whether the visits of two bands make them cross: between them, in one square, is less than the break, or they pass one street in one minute. (They pass it when they come.)
func (v visit) meets(w visit, pause int) bool {
	near := v.square == w.square && w.Lo-v.Hi <= pause && v.Lo-w.Hi <= pause
	passing := v.street == w.street && v.street != noStreet && v.Lo == w.Lo
	return near || passing
}

// tour is a band that is valid, with its squares.
type tour struct {
	api.Band
	squares []int
}

// visits are those of the band if its true start is within a span: the minutes in which it may be there.
func (t tour) visits(start api.Span) []visit {
	visits := make([]visit, 0, len(t.squares))
	street := noStreet
	for k, square := range t.squares {
		minutes := api.Span{Lo: start.Lo + k*t.Stay, Hi: start.Hi + (k+1)*t.Stay - 1}
		if k > 0 {
			street = t.Path[k-1]
		}
		visits = append(visits, visit{minutes, square, street})
	}
	return visits
}

// starts hands out the true starts, each one as a span.
func (t tour) starts() iter.Seq[api.Span] {
	return func(yield func(api.Span) bool) {
		for start := t.Start.Lo; start <= t.Start.Hi; start++ {
			if !yield(api.Span{Lo: start, Hi: start}) {
				return
			}
		}
	}
}

// verdict says whether two bands cross, over all their true starts.
func verdict(a, b tour, pause int) int {
	may, mayNot := false, false
	for start := range a.starts() {
		visits := a.visits(start)
		for other := range b.starts() {
			if meet(visits, b.visits(other), pause) {
				may = true
			} else {
				mayNot = true
			}
		}
	}
	switch {
	case !mayNot:
		return api.Sure
	case !may:
		return api.Never
	}
	return api.Open
}

// meet says whether two bands cross with their true visits.
func meet(visits, others []visit, pause int) bool {
	return slices.ContainsFunc(visits, func(v visit) bool {
		return slices.ContainsFunc(others, func(w visit) bool { return v.meets(w, pause) })
	})
}

// night says of each minute whether a band may be in a square. It is an array, so that a night with more noise is a copy with a change.
type night [api.MaxNight]bool

// nightOf is the night of a square with these bands.
func nightOf(tours []tour, square int) night {
	n := night{}
	for _, t := range tours {
		for _, v := range t.visits(t.Start) {
			if v.square == square {
				n = n.with(v.Span)
			}
		}
	}
	return n
}

// with is the night with noise in more minutes.
func (n night) with(minutes api.Span) night {
	for minute := minutes.Lo; minute <= minutes.Hi; minute++ {
		n[minute] = true
	}
	return n
}

// sleep is the first one of the longest runs of minutes without noise.
func (n night) sleep() (from, many int) {
	run := 0
	for minute, noise := range n {
		run++
		if noise {
			run = 0
		}
		if run > many {
			from, many = minute-run+1, run
		}
	}
	return from, many
}
