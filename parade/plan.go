package parade

import (
	"iter"
	"slices"

	"bateria/api"
)

// plan is starts and the widest gap that may open with them.
type plan struct {
	starts []int
	gap    int
}

// Plan returns the starts with the narrowest gaps that surely keep the time, and their widest gap.
func Plan(s api.School, r api.Rules) (starts []int, gap int, e api.Errno) {
	if e := Check(s); e != api.OK {
		return nil, 0, e
	}
	if len(s.Wings) > api.MaxPlanned {
		return nil, 0, api.ErrFull
	}
	if e := checkRules(r); e != api.OK {
		return nil, 0, e
	}
	narrower := func(a, b plan) bool { return a.gap < b.gap }
	p, found := best(timelyPlans(s, r), narrower)
	if !found {
		return nil, 0, api.ErrMissing
	}
	return p.starts, p.gap, api.OK
}

// timelyPlans hands out all plans that surely keep the time, in lexicographic order.
func timelyPlans(s api.School, r api.Rules) iter.Seq[plan] {
	return func(yield func(plan) bool) {
		for starts := range allPlans(s) {
			if keepsTime(lasting(s, starts), r) != api.Sure {
				continue
			}
			if !yield(plan{starts, widest(s, starts).gap}) {
				return
			}
		}
	}
}

// allPlans hands out the starts of all plans that are valid, in lexicographic order.
func allPlans(s api.School) iter.Seq[[]int] {
	return func(yield func([]int) bool) {
		var try func(starts []int) bool
		try = func(starts []int) bool {
			if len(starts) == len(s.Wings) {
				return yield(slices.Clone(starts))
			}
			least := leastStart(s, starts)
			most := min(least+longestWait(len(starts)), api.MaxSecond)
			for start := least; start <= most; start++ {
				if !try(append(starts, start)) {
					return false
				}
			}
			return true
		}
		try(nil)
	}
}

// longestWait is how long a wing may wait: the first one starts at once.
func longestWait(wing int) int {
	if wing == 0 {
		return 0
	}
	return api.MaxWait
}
