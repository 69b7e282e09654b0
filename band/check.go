package band

import (
	"bateria/api"
	"bateria/crowd"
)

// Check returns the first error of a city.
func Check(c api.City) api.Errno {
	if e := crowd.Check(c.Town); e != api.OK {
		return e
	}
	switch {
	case !within(c.Break, 0, api.MaxBreak):
		return api.ErrRange
	case len(c.Sleep) != len(c.Town.Rooms):
		return api.ErrForm
	}
	for _, minutes := range c.Sleep {
		if !within(minutes, 0, api.MaxNight) {
			return api.ErrRange
		}
	}
	return api.OK
}

// CheckBands returns the first error of a city and of bands.
func CheckBands(c api.City, l []api.Band) api.Errno {
	_, e := toursOf(c, l...)
	return e
}

// toursOf are the bands with their squares; or the first error of the city and of the bands.
func toursOf(c api.City, bands ...api.Band) ([]tour, api.Errno) {
	if e := Check(c); e != api.OK {
		return nil, e
	}
	if len(bands) > api.MaxBands {
		return nil, api.ErrFull
	}
	var tours []tour
	for _, b := range bands {
		squares, e := squaresOf(c.Town, b)
		if e != api.OK {
			return nil, e
		}
		if e := checkNumbers(b); e != api.OK {
			return nil, e
		}
		tours = append(tours, tour{b, squares})
	}
	return tours, api.OK
}

// squaresOf are the squares of a band, or the error of its first one and of its streets.
func squaresOf(t api.Town, b api.Band) ([]int, api.Errno) {
	switch {
	case !within(b.First, 0, len(t.Rooms)-1):
		return nil, api.ErrMissing
	case len(b.Path) > api.MaxRoam:
		return nil, api.ErrFull
	}
	square := b.First
	squares := []int{square}
	for _, number := range b.Path {
		if !within(number, 0, len(t.Streets)-1) {
			return nil, api.ErrMissing
		}
		street := t.Streets[number]
		switch square {
		case street.A:
			square = street.B
		case street.B:
			square = street.A
		default:
			return nil, api.ErrForm
		}
		squares = append(squares, square)
	}
	return squares, api.OK
}

// checkNumbers returns the error of a band's start, stay and people, and that it is away again too late.
func checkNumbers(b api.Band) api.Errno {
	start := b.Start
	switch {
	case !within(start.Lo, 0, api.MaxNight) || !within(start.Hi, 0, api.MaxNight):
		return api.ErrRange
	case start.Lo > start.Hi:
		return api.ErrOrder
	case start.Hi-start.Lo > api.MaxLate:
		return api.ErrRange
	case !within(b.Stay, 1, api.MaxStay) || !within(b.People, 0, api.MaxPeople):
		return api.ErrRange
	case start.Hi+b.Stay*(len(b.Path)+1) > api.MaxNight:
		return api.ErrLate
	}
	return api.OK
}

func within(n, least, most int) bool { return n >= least && n <= most }
