package band

import (
	"cmp"
	"iter"
	"math/bits"
	"slices"

	"bateria/api"
)

// Grant says for each band, one after the other, whether it is granted, or why not.
func Grant(c api.City, l []api.Band) ([]api.Errno, api.Errno) {
	tours, e := toursOf(c, l...)
	if e != api.OK {
		return nil, e
	}
	r := requestsOf(c, tours)
	granted := choice(0)
	var answers []api.Errno
	for band := range tours {
		answer := r.wrong(band, granted)
		if answer == api.OK {
			granted = granted.with(band)
		}
		answers = append(answers, answer)
	}
	return answers, api.OK
}

// Best returns the numbers of the most bands that can be granted together.
func Best(c api.City, l []api.Band) ([]int, api.Errno) {
	tours, e := toursOf(c, l...)
	switch {
	case e != api.OK:
		return nil, e
	case len(tours) > api.MaxChosen:
		return nil, api.ErrFull
	}
	return slices.Collect(requestsOf(c, tours).best().bands()), api.OK
}

// choice is some of the bands: a bit for each of them.
type choice uint

func (x choice) with(band int) choice { return x | 1<<band }

func (x choice) count() int { return bits.OnesCount(uint(x)) }

// bands hands out the numbers of the bands, ascending.
func (x choice) bands() iter.Seq[int] {
	return func(yield func(int) bool) {
		for rest := x; rest != 0; rest &= rest - 1 {
			if !yield(bits.TrailingZeros(uint(rest))) {
				return
			}
		}
	}
}

// requests are those of bands for permits in a city, and for each of them the bands before it that it may cross.
type requests struct {
	city    api.City
	tours   []tour
	crosses []choice
}

func requestsOf(c api.City, tours []tour) requests {
	crosses := make([]choice, len(tours))
	for i, a := range tours {
		for j, b := range tours[:i] {
			if verdict(a, b, c.Break) != api.Never {
				crosses[i] = crosses[i].with(j)
			}
		}
	}
	return requests{c, tours, crosses}
}

// request is that of a band when others were granted.
type request struct {
	requests
	band    int
	granted choice
}

// wrong says why a band is not granted when others were.
func (r requests) wrong(band int, granted choice) api.Errno {
	q := request{r, band, granted}
	return firstOf(q.clash, q.throng, q.noise)
}

// firstOf asks what is wrong until something is.
func firstOf(asks ...func() api.Errno) api.Errno {
	for _, ask := range asks {
		if e := ask(); e != api.OK {
			return e
		}
	}
	return api.OK
}

// clash is that the band may cross one that was granted.
func (q request) clash() api.Errno {
	if q.crosses[q.band]&q.granted != 0 {
		return api.ErrClash
	}
	return api.OK
}

// throng is that the band is too large for one of its squares.
func (q request) throng() api.Errno {
	t := q.tours[q.band]
	for _, square := range t.squares {
		if t.People > q.city.Town.Rooms[square] {
			return api.ErrOver
		}
	}
	return api.OK
}

// noise is that a square would not sleep as long as it is owed.
func (q request) noise() api.Errno {
	var tours []tour
	for band := range q.granted.with(q.band).bands() {
		tours = append(tours, q.tours[band])
	}
	for square, owed := range q.city.Sleep {
		if _, many := nightOf(tours, square).sleep(); many < owed {
			return api.ErrState
		}
	}
	return api.OK
}

// best is the best choice of bands that can be granted together. A choice is tried before those of as many bands that stand behind it in lexicographic order; what cannot be granted is not tried with more bands, which would change nothing.
func (r requests) best() choice {
	best := choice(0)
	var try func(chosen choice, next int)
	try = func(chosen choice, next int) {
		if next == len(r.tours) {
			if r.compare(chosen, best) > 0 {
				best = chosen
			}
			return
		}
		if r.wrong(next, chosen) == api.OK {
			try(chosen.with(next), next+1)
		}
		try(chosen, next+1)
	}
	try(0, 0)
	return best
}

// compare says which choice has more bands, and of those with as many, which one has more people.
func (r requests) compare(x, y choice) int {
	return cmp.Or(cmp.Compare(x.count(), y.count()), cmp.Compare(r.people(x), r.people(y)))
}

func (r requests) people(x choice) int {
	sum := 0
	for band := range x.bands() {
		sum += r.tours[band].People
	}
	return sum
}
