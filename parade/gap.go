package parade

import (
	"iter"
	"sort"

	"bateria/api"
)

// opening is the gap of a wing in a second.
type opening struct{ wing, second, gap int }

// Gap says how wide the gap of a wing may be in a second.
func Gap(s api.School, starts []int, wing, second int) (api.Span, api.Errno) {
	if e := checkMoment(s, starts, wing, second); e != api.OK {
		return api.Span{}, e
	}
	if wing == 0 {
		return api.Span{}, api.ErrMissing
	}
	tight, loose := apart(s, starts, wing, high), apart(s, starts, wing, low)
	return between(tight.gap, loose.gap, wing, second), api.OK
}

// Opens says for each wing whether it has a gap that is too wide while it is watched.
func Opens(s api.School, starts []int, r api.Rules) ([]int, api.Errno) {
	if e := CheckStarts(s, starts); e != api.OK {
		return nil, e
	}
	if e := checkRules(r); e != api.OK {
		return nil, e
	}
	verdicts := []int{api.Never}
	for wing := 1; wing < len(s.Wings); wing++ {
		verdicts = append(verdicts, opens(s, starts, wing, r.Gap))
	}
	return verdicts, api.OK
}

// Widest returns the widest gap that any wing may have while it is watched.
func Widest(s api.School, starts []int) (wing, second, gap int, e api.Errno) {
	if e := CheckStarts(s, starts); e != api.OK {
		return 0, 0, 0, e
	}
	o := widest(s, starts)
	return o.wing, o.second, o.gap, api.OK
}

// opens is the verdict on a wing. The same true paces make its gap the least one in all seconds at once, and others the greatest one.
func opens(s api.School, starts []int, wing, gap int) int {
	switch {
	case watchedPeak(s, starts, wing, high).gap > gap:
		return api.Sure
	case watchedPeak(s, starts, wing, low).gap > gap:
		return api.Open
	}
	return api.Never
}

// widest is the result of Widest for valid starts.
func widest(s api.School, starts []int) opening {
	wider := func(a, b opening) bool { return a.gap > b.gap }
	o, found := best(openings(s, starts), wider)
	if !found || o.gap == 0 {
		return opening{wing: -1, second: -1}
	}
	return o
}

// openings hands out the widest gap that each wing may have while it is watched.
func openings(s api.School, starts []int) iter.Seq[opening] {
	return func(yield func(opening) bool) {
		for wing := 1; wing < len(s.Wings); wing++ {
			if !yield(watchedPeak(s, starts, wing, low)) {
				return
			}
		}
	}
}

// best is the first of several things than which no other one is better.
func best[T any](things iter.Seq[T], better func(a, b T) bool) (T, bool) {
	var chosen T
	found := false
	for thing := range things {
		if !found || better(thing, chosen) {
			chosen, found = thing, true
		}
	}
	return chosen, found
}

// watchedPeak is the first widest gap of a wing while it is watched, if it goes at that end of its pace and all others at the other end.
func watchedPeak(s api.School, starts []int, wing, end int) opening {
	until := allAt(s, starts, high).leaves(wing-1, s.Route)
	return peak(apart(s, starts, wing, end).gap, wing, starts[wing], until)
}

// peak is the first widest gap of a wing from a second on, before another one; a gap of 0 if there is no second.
// It need not look at all seconds: the tail before the wing goes by the least of straight lines and the wing goes by one of them where there is a gap, so a gap that has ceased to grow does not grow again.
func peak(gap func(wing, second int) int, wing, from, until int) opening {
	if from >= until {
		return opening{wing: wing, second: from}
	}
	grown := sort.Search(until-1-from, func(i int) bool {
		return gap(wing, from+i+1) <= gap(wing, from+i)
	})
	return opening{wing: wing, second: from + grown, gap: gap(wing, from+grown)}
}
