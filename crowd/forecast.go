package crowd

import (
	"iter"

	"bateria/api"
)

// nowhere is the place of a group that is away, or of which nobody can say where it is, since that depends on a street that is undecided.
const nowhere = -1

// walk is how a group goes in a state of the streets: where it is after no stay, after one, two and so on. Where it is last, it remains.
type walk struct {
	group  api.Group
	places []int
}

func walkOf(t api.Town, g api.Group, s state) walk {
	square := g.First
	w := walk{group: g, places: []int{square}}
	for _, street := range g.Path {
		switch s[street] {
		case shut:
			return w
		case undecided:
			w.places = append(w.places, nowhere)
			return w
		}
		square = otherEnd(t.Streets[street], square)
		w.places = append(w.places, square)
	}
	w.places = append(w.places, nowhere)
	return w
}

// stand is where a group may be in a step: in which squares, how many they are, and whether it may be nowhere.
type stand struct {
	size    api.Span
	in      [api.MaxSquares]bool
	squares int
	lost    bool
}

// stand is where the group may be in a step. The later it truly came, the fewer stays are behind it; and each number of stays between the fewest and the most may be.
func (w walk) stand(step int) stand {
	at := w.group.At
	x := stand{size: w.group.Size, lost: step < at.Hi}
	if step < at.Lo {
		return x
	}
	fewest, most := w.stays(step-at.Hi), w.stays(step-at.Lo)
	for _, place := range w.places[fewest : most+1] {
		switch {
		case place == nowhere:
			x.lost = true
		case !x.in[place]:
			x.in[place] = true
			x.squares++
		}
	}
	return x
}

// stays is how many stays are behind the group so many steps after it came; those after it remains do not matter.
func (w walk) stays(steps int) int { return min(max(steps, 0)/w.group.Stay, len(w.places)-1) }

// people is how many people of the group a square has.
func (x stand) people(square int) api.Span {
	switch {
	case !x.in[square]:
		return api.Span{}
	case x.squares > 1 || x.lost:
		return api.Span{Hi: x.size.Hi}
	}
	return x.size
}

// total adds up the spans of things.
func total[T any](things []T, spanOf func(T) api.Span) api.Span {
	sum := api.Span{}
	for _, thing := range things {
		x := spanOf(thing)
		sum.Lo += x.Lo
		sum.Hi += x.Hi
	}
	return sum
}

// forecast is a town in a state of its streets.
type forecast struct {
	town  api.Town
	walks []walk
}

func foresee(t api.Town, s state) forecast {
	f := forecast{town: t}
	for _, g := range t.Groups {
		f.walks = append(f.walks, walkOf(t, g, s))
	}
	return f
}

// loads are the least and the greatest number of people of each square in a step. If a street is undecided, the greatest one is the sure number.
func (f forecast) loads(step int) []api.Span {
	var stands []stand
	for _, w := range f.walks {
		stands = append(stands, w.stand(step))
	}
	var loads []api.Span
	for square := range f.town.Rooms {
		loads = append(loads, total(stands, func(x stand) api.Span { return x.people(square) }))
	}
	return loads
}

// crushes hands out the squares that are too full, step by step, and in each one square by square.
func (f forecast) crushes() iter.Seq[api.Crush] {
	return func(yield func(api.Crush) bool) {
		for step := range f.town.Steps + 1 {
			for square, people := range f.loads(step) {
				if people.Hi > f.town.Rooms[square] && !yield(api.Crush{Step: step, Square: square, Most: people.Hi}) {
					return
				}
			}
		}
	}
}

// firstCrush is the first of the crushes, if there is one.
func (f forecast) firstCrush() (crush api.Crush, found bool) {
	for crush := range f.crushes() {
		return crush, true
	}
	return api.Crush{}, false
}
