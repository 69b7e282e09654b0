package costume

import "bateria/api"

// Check returns the first error of a plot.
func Check(p api.Plot) api.Errno {
	if e := checkPersons(p.Persons); e != api.OK {
		return e
	}
	if e := checkWalk(p.Walk); e != api.OK {
		return e
	}
	if e := checkDress(p.Dress); e != api.OK {
		return e
	}
	return checkParts(p)
}

// CheckItems returns the first error of a plot, then that of the items.
func CheckItems(p api.Plot, items []api.Item) api.Errno {
	if e := Check(p); e != api.OK {
		return e
	}
	if len(items) > api.MaxItems {
		return api.ErrFull
	}
	for _, i := range items {
		if e := checkItem(p, i); e != api.OK {
			return e
		}
	}
	return api.OK
}

// CheckWear returns the first error of a plot and of the items, then that of the wear.
func CheckWear(p api.Plot, items []api.Item, wear []int) api.Errno {
	if e := CheckItems(p, items); e != api.OK {
		return e
	}
	if len(wear) != len(p.Parts) {
		return api.ErrForm
	}
	for part := range wear {
		if e := checkWorn(p, items, wear[:part+1]); e != api.OK {
			return e
		}
	}
	return api.OK
}

// checkSmall returns the first error of a plot and of the items, then whether they are too many to try all wears.
func checkSmall(p api.Plot, items []api.Item) api.Errno {
	if e := CheckItems(p, items); e != api.OK {
		return e
	}
	if len(p.Parts) > api.MaxDressed || len(items) > api.MaxHung {
		return api.ErrFull
	}
	return api.OK
}

func checkPersons(sizes []api.Span) api.Errno {
	if e := checkCount(len(sizes), api.MaxPersons); e != api.OK {
		return e
	}
	for _, size := range sizes {
		if e := checkFigures(size); e != api.OK {
			return e
		}
	}
	return api.OK
}

func checkWalk(walk [][]int) api.Errno {
	if e := checkCount(len(walk), api.MaxPlaces); e != api.OK {
		return e
	}
	for from, ways := range walk {
		if len(ways) != len(walk) {
			return api.ErrForm
		}
		for to, way := range ways {
			switch {
			case !within(way, 0, api.MaxMinute):
				return api.ErrRange
			case from == to && way != 0:
				return api.ErrForm
			}
		}
	}
	return api.OK
}

func checkDress(dress []int) api.Errno {
	if e := checkCount(len(dress), api.MaxKinds); e != api.OK {
		return e
	}
	for _, minutes := range dress {
		if !within(minutes, 0, api.MaxMinute) {
			return api.ErrRange
		}
	}
	return api.OK
}

func checkParts(p api.Plot) api.Errno {
	if len(p.Parts) > api.MaxParts {
		return api.ErrFull
	}
	for i, x := range p.Parts {
		if e := checkPart(p, x); e != api.OK {
			return e
		}
		for _, before := range p.Parts[:i] {
			if e := checkBoth(p, before, x); e != api.OK {
				return e
			}
		}
	}
	return api.OK
}

func checkPart(p api.Plot, x api.Part) api.Errno {
	switch {
	case !isNumber(x.Person, len(p.Persons)) || !isNumber(x.Place, len(p.Walk)) || !isNumber(x.Kind, len(p.Dress)):
		return api.ErrMissing
	case !within(x.From, 0, api.MaxMinute) || !within(x.To, 0, api.MaxMinute):
		return api.ErrRange
	case x.From >= x.To:
		return api.ErrOrder
	}
	return api.OK
}

// checkBoth returns the error of two parts, if they are of the same person.
func checkBoth(p api.Plot, a, b api.Part) api.Errno {
	if a.Person != b.Person {
		return api.OK
	}
	first, then := inTime(a, b)
	needed := way(p, first, then)
	if first.Kind != then.Kind {
		needed += p.Dress[then.Kind]
	}
	switch {
	case pause(first, then) < 0:
		return api.ErrClash
	case pause(first, then) < needed:
		return api.ErrLate
	}
	return api.OK
}

func checkItem(p api.Plot, i api.Item) api.Errno {
	if !isNumber(i.Kind, len(p.Dress)) {
		return api.ErrMissing
	}
	if e := checkFigures(i.Fits); e != api.OK {
		return e
	}
	if !within(i.Cost, 0, api.MaxCost) || !within(i.Clean, 0, api.MaxMinute) {
		return api.ErrRange
	}
	return api.OK
}

// checkWorn returns the first error of the last part of a wear, which may be the beginning of a longer one.
func checkWorn(p api.Plot, items []api.Item, wear []int) api.Errno {
	last := len(wear) - 1
	if e := checkWears(p, items, p.Parts[last], wear[last]); e != api.OK {
		return e
	}
	for before := range last {
		if e := checkChange(p, items, wear, before, last); e != api.OK {
			return e
		}
	}
	return api.OK
}

// checkWears returns the error of an item in a part.
func checkWears(p api.Plot, items []api.Item, x api.Part, item int) api.Errno {
	switch {
	case !isNumber(item, len(items)):
		return api.ErrMissing
	case items[item].Kind != x.Kind:
		return api.ErrKind
	}
	switch fitting(items[item], p.Persons[x.Person]) {
	case api.Never:
		return api.ErrClash
	case api.Open:
		return api.ErrOpen
	}
	return api.OK
}

// checkChange returns the error of what is worn in two parts: a person changes, or an item is cleaned for another person.
func checkChange(p api.Plot, items []api.Item, wear []int, before, part int) api.Errno {
	first, then := inTime(p.Parts[before], p.Parts[part])
	samePerson, sameItem := first.Person == then.Person, wear[before] == wear[part]
	switch {
	case samePerson && !sameItem && first.Kind == then.Kind:
		if pause(first, then) < way(p, first, then)+p.Dress[then.Kind] {
			return api.ErrLate
		}
	case !samePerson && sameItem:
		if pause(first, then) < items[wear[part]].Clean {
			return api.ErrState
		}
	}
	return api.OK
}

// checkCount returns the error of how many things there are, if there has to be one.
func checkCount(many, most int) api.Errno {
	switch {
	case many == 0:
		return api.ErrShort
	case many > most:
		return api.ErrFull
	}
	return api.OK
}

// checkFigures returns the error of sizes.
func checkFigures(s api.Span) api.Errno {
	switch {
	case !within(s.Lo, 1, api.MaxFigure) || !within(s.Hi, 1, api.MaxFigure):
		return api.ErrRange
	case s.Lo > s.Hi:
		return api.ErrOrder
	}
	return api.OK
}

// isNumber says whether a number is that of one of so many things.
func isNumber(n, many int) bool { return within(n, 0, many-1) }

func within(n, least, most int) bool { return n >= least && n <= most }
