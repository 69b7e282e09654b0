package parade

import "bateria/api"

const maxName = 8

// Check returns the first error of a school.
func Check(s api.School) api.Errno {
	switch {
	case !within(s.Route, 1, api.MaxRoute):
		return api.ErrRange
	case len(s.Wings) == 0:
		return api.ErrShort
	case len(s.Wings) > api.MaxWings:
		return api.ErrFull
	}
	for i, w := range s.Wings {
		if e := checkWing(w, s.Wings[:i]); e != api.OK {
			return e
		}
	}
	return api.OK
}

// CheckStarts returns the first error of a school and of its starts.
func CheckStarts(s api.School, starts []int) api.Errno {
	if e := Check(s); e != api.OK {
		return e
	}
	if len(starts) != len(s.Wings) {
		return api.ErrForm
	}
	for i, start := range starts {
		if !within(start, 0, api.MaxSecond) {
			return api.ErrRange
		}
		if start < leastStart(s, starts[:i]) {
			return api.ErrLate
		}
	}
	return api.OK
}

// Least returns the least starts of all wings.
func Least(s api.School) ([]int, api.Errno) {
	if e := Check(s); e != api.OK {
		return nil, e
	}
	starts := make([]int, 0, len(s.Wings))
	for range s.Wings {
		start := leastStart(s, starts)
		if start > api.MaxSecond {
			return nil, api.ErrRange
		}
		starts = append(starts, start)
	}
	return starts, api.OK
}

// leastStart is the least start of the wing behind those whose starts are given.
func leastStart(s api.School, starts []int) int {
	if len(starts) == 0 {
		return 0
	}
	return allAt(s, starts, low).leaves(len(starts)-1, 0)
}

func checkWing(w api.Wing, before []api.Wing) api.Errno {
	if !isName(w.Name) {
		return api.ErrForm
	}
	for _, other := range before {
		if other.Name == w.Name {
			return api.ErrExists
		}
	}
	switch {
	case !within(w.Length, 1, api.MaxLength):
		return api.ErrRange
	case !within(w.Pace.Lo, 1, api.MaxPace) || !within(w.Pace.Hi, 1, api.MaxPace):
		return api.ErrRange
	case w.Pace.Lo > w.Pace.Hi:
		return api.ErrOrder
	}
	return api.OK
}

func isName(name string) bool {
	if !within(len(name), 1, maxName) {
		return false
	}
	for i := range len(name) {
		if name[i] < 'a' || name[i] > 'z' {
			return false
		}
	}
	return true
}

func checkRules(r api.Rules) api.Errno {
	switch {
	case !within(r.Least, 0, api.MaxRoute) || !within(r.Most, 0, api.MaxRoute) || !within(r.Gap, 0, api.MaxGap):
		return api.ErrRange
	case r.Least > r.Most:
		return api.ErrOrder
	}
	return api.OK
}

func within(n, least, most int) bool { return n >= least && n <= most }
