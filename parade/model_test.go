package parade_test

// The model follows the section Terms of the chapter word by word, second by second, and over all true paces. The other tests hold the package against it.

import (
	"iter"
	"math/rand/v2"
	"slices"

	"bateria/api"
	"bateria/parade"
)

func span(low, high int) api.Span { return api.Span{Lo: low, Hi: high} }

// samba is the school S of the chapter's examples.
func samba() api.School {
	return api.School{Route: 1000, Wings: []api.Wing{
		{Name: "front", Length: 100, Pace: span(40, 50)},
		{Name: "drums", Length: 200, Pace: span(50, 60)},
		{Name: "back", Length: 100, Pace: span(30, 50)},
	}}
}

// rules are the rules R of the chapter's examples, tight are the least starts of samba.
func rules() api.Rules { return api.Rules{Least: 30, Most: 60, Gap: 150} }

func tight() []int { return []int{0, 3, 8} }

// changed is samba after a change.
func changed(change func(s *api.School)) api.School {
	s := samba()
	change(&s)
	return s
}

// model is a school with its starts and true paces.
type model struct {
	s             api.School
	starts, paces []int
}

func (m model) front(wing, second int) int {
	free := m.paces[wing] * (second - m.starts[wing])
	if wing == 0 {
		return free
	}
	return min(free, m.tail(wing-1, second))
}

func (m model) tail(wing, second int) int { return m.front(wing, second) - m.s.Wings[wing].Length }

func (m model) gap(wing, second int) int { return m.tail(wing-1, second) - m.front(wing, second) }

// first is the first second, from the start of a wing on, in which its place is this one or beyond it.
func (m model) first(place func(wing, second int) int, wing, at int) int {
	second := m.starts[wing]
	for place(wing, second) < at {
		second++
	}
	return second
}

func (m model) lasts() int {
	return m.first(m.tail, len(m.s.Wings)-1, m.s.Route) - m.starts[0]
}

// truths hands out the school with all true paces, one after the other.
func truths(s api.School, starts []int) iter.Seq[model] {
	return func(yield func(model) bool) {
		var choose func(paces []int) bool
		choose = func(paces []int) bool {
			if len(paces) == len(s.Wings) {
				return yield(model{s, starts, slices.Clone(paces)})
			}
			pace := s.Wings[len(paces)].Pace
			for p := pace.Lo; p <= pace.Hi; p++ {
				if !choose(append(paces, p)) {
					return false
				}
			}
			return true
		}
		choose(nil)
	}
}

// reach is the least and the greatest of what is asked of all truths.
func reach(s api.School, starts []int, ask func(m model) int) api.Span {
	var all []int
	for m := range truths(s, starts) {
		all = append(all, ask(m))
	}
	return span(slices.Min(all), slices.Max(all))
}

// leastStart is the least start of the wing behind those that have one.
func leastStart(s api.School, starts []int) int {
	if len(starts) == 0 {
		return 0
	}
	wing := len(starts) - 1
	ahead := api.School{Route: s.Route, Wings: s.Wings[:wing+1]}
	return reach(ahead, starts, func(m model) int { return m.first(m.tail, wing, 0) }).Hi
}

// watchedUntil is the second from which on a wing is not watched any more.
func watchedUntil(s api.School, starts []int, wing int) int {
	return reach(s, starts, func(m model) int { return m.first(m.tail, wing-1, s.Route) }).Lo
}

// watchedGap is the widest watched gap of a wing in one truth, -1 if it is not watched.
func watchedGap(m model, wing, until int) int {
	widest := -1
	for second := m.starts[wing]; second < until; second++ {
		widest = max(widest, m.gap(wing, second))
	}
	return widest
}

// opens is the verdict of Opens on a wing.
func opens(s api.School, starts []int, wing, gap int) int {
	if wing == 0 {
		return api.Never
	}
	until := watchedUntil(s, starts, wing)
	wide, narrow := false, false
	for m := range truths(s, starts) {
		is := watchedGap(m, wing, until) > gap
		wide, narrow = wide || is, narrow || !is
	}
	switch {
	case wide && narrow:
		return api.Open
	case wide:
		return api.Sure
	}
	return api.Never
}

// widest is the wing, the second and the gap of Widest.
func widest(s api.School, starts []int) (wing, second, gap int) {
	wing, second = -1, -1
	for w := 1; w < len(s.Wings); w++ {
		until := watchedUntil(s, starts, w)
		for t := starts[w]; t < until; t++ {
			if g := reach(s, starts, func(m model) int { return m.gap(w, t) }).Hi; g > gap {
				wing, second, gap = w, t, g
			}
		}
	}
	return wing, second, gap
}

// plans are the starts of all plans, in lexicographic order.
func plans(s api.School) [][]int {
	all := [][]int{{0}}
	for range s.Wings[1:] {
		var longer [][]int
		for _, starts := range all {
			least := leastStart(s, starts)
			for wait := range api.MaxWait + 1 {
				longer = append(longer, append(slices.Clone(starts), least+wait))
			}
		}
		all = longer
	}
	slices.SortFunc(all, slices.Compare)
	return all
}

// plan is the best plan, nil if there is none.
func plan(s api.School, r api.Rules) (best []int, narrowest int) {
	for _, starts := range plans(s) {
		seconds := reach(s, starts, model.lasts)
		if seconds.Lo < r.Least || seconds.Hi > r.Most {
			continue
		}
		if _, _, gap := widest(s, starts); best == nil || gap < narrowest {
			best, narrowest = starts, gap
		}
	}
	return best, narrowest
}

// trial is a small school with valid starts.
type trial struct {
	s      api.School
	starts []int
}

// trials are small schools of 1 to wings wings, the same ones each time.
func trials(many, wings int) []trial {
	pick := rand.New(rand.NewPCG(1, 2))
	var all []trial
	for range many {
		s := api.School{Route: 1 + pick.IntN(25)}
		for i := range 1 + pick.IntN(wings) {
			low := 1 + pick.IntN(6)
			s.Wings = append(s.Wings, api.Wing{Name: string(rune('a' + i)), Length: 1 + pick.IntN(8), Pace: span(low, low+pick.IntN(3))})
		}
		starts := []int{pick.IntN(3)}
		for len(starts) < len(s.Wings) {
			starts = append(starts, leastStart(s, starts)+pick.IntN(4))
		}
		all = append(all, trial{s, starts})
	}
	return all
}

// seconds are those in which the tests look at a wing.
func seconds(t trial, wing int) iter.Seq[int] {
	return func(yield func(int) bool) {
		last := reach(t.s, t.starts, model.lasts).Hi + t.starts[0] + 2
		for second := t.starts[wing]; second <= last; second++ {
			if !yield(second) {
				return
			}
		}
	}
}

// where, passes, gap and lasts are the spans of the package where no error is expected.
func where(t trial, wing, second int) api.Span {
	x, e := parade.Where(t.s, t.starts, wing, second)
	return sane(x, e)
}

func passes(t trial, wing, place int) api.Span {
	x, e := parade.Passes(t.s, t.starts, wing, place)
	return sane(x, e)
}

func gap(t trial, wing, second int) api.Span {
	x, e := parade.Gap(t.s, t.starts, wing, second)
	return sane(x, e)
}

func lasts(t trial) api.Span {
	_, x, e := parade.Lasts(t.s, t.starts, rules())
	return sane(x, e)
}

// sane is the span, or one that nothing may have if there is an error.
func sane(x api.Span, e api.Errno) api.Span {
	if e != api.OK {
		return span(-1, -2)
	}
	return x
}

func inside(x, y api.Span) bool { return x.Lo >= y.Lo && x.Hi <= y.Hi && x.Lo <= x.Hi }
