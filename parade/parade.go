// Package parade is layer 1: where the wings of a school are on the avenue at each second, how long the parade lasts, which gaps open, and which starts surely keep the time. See shared/doc/01-parade.md.
package parade

import "bateria/api"

// Where says where the front of a wing may be in a second.
func Where(s api.School, starts []int, wing, second int) (api.Span, api.Errno) {
	if e := checkMoment(s, starts, wing, second); e != api.OK {
		return api.Span{}, e
	}
	slow, quick := allAt(s, starts, low), allAt(s, starts, high)
	return between(slow.front, quick.front, wing, second), api.OK
}

// Passes says in which seconds a wing may pass a place.
func Passes(s api.School, starts []int, wing, place int) (api.Span, api.Errno) {
	if e := CheckStarts(s, starts); e != api.OK {
		return api.Span{}, e
	}
	if !isWing(s, wing) {
		return api.Span{}, api.ErrMissing
	}
	if place < 0 || place > api.MaxRoute {
		return api.Span{}, api.ErrRange
	}
	slow, quick := allAt(s, starts, low), allAt(s, starts, high)
	return between(quick.passes, slow.passes, wing, place), api.OK
}

// Lasts says how many seconds the parade may last, and whether it keeps the time.
func Lasts(s api.School, starts []int, r api.Rules) (verdict int, seconds api.Span, e api.Errno) {
	if e := CheckStarts(s, starts); e != api.OK {
		return 0, api.Span{}, e
	}
	if e := checkRules(r); e != api.OK {
		return 0, api.Span{}, e
	}
	seconds = lasting(s, starts)
	return keepsTime(seconds, r), seconds, api.OK
}

// checkMoment returns the errors of Where.
func checkMoment(s api.School, starts []int, wing, second int) api.Errno {
	if e := CheckStarts(s, starts); e != api.OK {
		return e
	}
	switch {
	case !isWing(s, wing):
		return api.ErrMissing
	case second < starts[wing]:
		return api.ErrLate
	case second > api.MaxRoute: // the document bounds this second by MaxRoute, not by MaxSecond
		return api.ErrRange
	}
	return api.OK
}

func isWing(s api.School, wing int) bool { return wing >= 0 && wing < len(s.Wings) }

// between is what is asked of a wing, from the truth in which it is least to the one in which it is greatest.
func between(least, greatest func(wing, at int) int, wing, at int) api.Span {
	return api.Span{Lo: least(wing, at), Hi: greatest(wing, at)}
}

// lasting is how many seconds the parade may last, by valid starts.
func lasting(s api.School, starts []int) api.Span {
	slow, quick := allAt(s, starts, low), allAt(s, starts, high)
	finish := between(quick.leaves, slow.leaves, len(s.Wings)-1, s.Route)
	return api.Span{Lo: finish.Lo - starts[0], Hi: finish.Hi - starts[0]}
}

// keepsTime is the verdict on a parade that lasts so many seconds.
func keepsTime(seconds api.Span, r api.Rules) int {
	switch {
	case seconds.Lo >= r.Least && seconds.Hi <= r.Most:
		return api.Sure
	case seconds.Lo > r.Most || seconds.Hi < r.Least:
		return api.Never
	}
	return api.Open
}
