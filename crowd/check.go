package crowd

import "bateria/api"

// Check returns the first error of a town.
func Check(t api.Town) api.Errno {
	if e := checkSquares(t); e != api.OK {
		return e
	}
	if e := checkStreets(t); e != api.OK {
		return e
	}
	switch {
	case !within(t.Steps, 0, api.MaxSteps):
		return api.ErrRange
	case len(t.Groups) > api.MaxGroups:
		return api.ErrFull
	}
	for _, g := range t.Groups {
		if e := checkGroup(t, g); e != api.OK {
			return e
		}
	}
	return api.OK
}

func checkSquares(t api.Town) api.Errno {
	switch {
	case len(t.Rooms) == 0:
		return api.ErrShort
	case len(t.Rooms) > api.MaxSquares:
		return api.ErrFull
	}
	for _, room := range t.Rooms {
		if !within(room, 0, api.MaxPeople) {
			return api.ErrRange
		}
	}
	return api.OK
}

func checkStreets(t api.Town) api.Errno {
	if len(t.Streets) > api.MaxStreets {
		return api.ErrFull
	}
	for _, x := range t.Streets {
		switch {
		case !isSquare(t, x.A) || !isSquare(t, x.B):
			return api.ErrMissing
		case x.A == x.B:
			return api.ErrForm
		}
	}
	return api.OK
}

func checkGroup(t api.Town, g api.Group) api.Errno {
	if e := checkSpan(g.Size, api.MaxPeople); e != api.OK {
		return e
	}
	if e := checkSpan(g.At, api.MaxSteps); e != api.OK {
		return e
	}
	switch {
	case !within(g.Stay, 1, api.MaxSteps):
		return api.ErrRange
	case !isSquare(t, g.First):
		return api.ErrMissing
	}
	return checkPath(t, g)
}

// checkSpan returns the error of a span from 0 to the greatest number that may be.
func checkSpan(x api.Span, most int) api.Errno {
	switch {
	case !within(x.Lo, 0, most) || !within(x.Hi, 0, most):
		return api.ErrRange
	case x.Lo > x.Hi:
		return api.ErrOrder
	}
	return api.OK
}

// checkPath returns the error of the streets of a group that comes to a square.
func checkPath(t api.Town, g api.Group) api.Errno {
	if len(g.Path) > api.MaxStreets {
		return api.ErrFull
	}
	square := g.First
	for _, number := range g.Path {
		if !isStreet(t, number) {
			return api.ErrMissing
		}
		street := t.Streets[number]
		if street.A != square && street.B != square {
			return api.ErrForm
		}
		square = otherEnd(street, square)
	}
	return api.OK
}

// checkClosed returns the first error of a town and a list of closed streets.
func checkClosed(t api.Town, closed []int) api.Errno {
	if e := Check(t); e != api.OK {
		return e
	}
	for i, street := range closed {
		switch {
		case !isStreet(t, street):
			return api.ErrMissing
		case i > 0 && street <= closed[i-1]:
			return api.ErrOrder
		}
	}
	return api.OK
}

// checkMost returns the first error of a town and of how many streets may be closed.
func checkMost(t api.Town, most int) api.Errno {
	if e := Check(t); e != api.OK {
		return e
	}
	if !within(most, 0, api.MaxStreets) {
		return api.ErrRange
	}
	return api.OK
}

// otherEnd is where a street leads from one of its ends.
func otherEnd(x api.Street, square int) int {
	if x.A == square {
		return x.B
	}
	return x.A
}

func isSquare(t api.Town, n int) bool { return within(n, 0, len(t.Rooms)-1) }

func isStreet(t api.Town, n int) bool { return within(n, 0, len(t.Streets)-1) }

func within(n, least, most int) bool { return n >= least && n <= most }
