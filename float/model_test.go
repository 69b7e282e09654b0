package float_test

// The model follows the section Terms of the chapter word by word, over all truths and all radii. The other tests hold the package against it.

import (
	"iter"
	"math/rand/v2"
	"slices"

	"bateria/api"
)

const sure, never, open = api.Sure, api.Never, api.Open

func span(low, high int) api.Span { return api.Span{Lo: low, Hi: high} }

func one(n int) api.Span { return span(n, n) }

func bend(a, b int) api.Hurdle { return api.Hurdle{Kind: api.HurdleBend, A: a, B: b} }

func wire(a int) api.Hurdle { return api.Hurdle{Kind: api.HurdleWire, A: a} }

func bridge(a, b int) api.Hurdle { return api.Hurdle{Kind: api.HurdleBridge, A: a, B: b} }

// dragon is the float F of the chapter's examples.
func dragon() api.Float {
	return api.Float{Length: 1000, Width: 300, Front: 200, Rear: 800, Turn: 900, Kilos: 4000, Middle: 500, High: 400, Loads: []api.Load{
		{At: 300, Kilos: span(500, 600), Top: span(450, 500), Kind: api.LoadPlain},
		{At: 700, Kilos: one(1000), Top: one(380), Kind: api.LoadPower, Watts: 5000},
		{At: 500, Kilos: span(100, 200), Top: span(300, 350), Kind: api.LoadLamp, Watts: 3000},
		{At: 600, Kilos: one(50), Top: span(400, 520), Kind: api.LoadFire},
	}}
}

// changed is the dragon after a change.
func changed(change func(f *api.Float)) api.Float {
	f := dragon()
	change(&f)
	return f
}

// model is a float with its true weights and tops.
type model struct {
	f           api.Float
	kilos, tops []int
}

func (m model) total() int {
	sum := m.f.Kilos
	for _, kilos := range m.kilos {
		sum += kilos
	}
	return sum
}

func (m model) height() int { return slices.Max(append([]int{m.f.High}, m.tops...)) }

// base is by what the weights on the axles are divided.
func (m model) base() int { return m.f.Rear - m.f.Front }

// rear and front are what the axles carry, before this division.
func (m model) rear() int {
	sum := m.f.Kilos * (m.f.Middle - m.f.Front)
	for i, kilos := range m.kilos {
		sum += kilos * (m.f.Loads[i].At - m.f.Front)
	}
	return sum
}

func (m model) front() int {
	sum := m.f.Kilos * (m.f.Rear - m.f.Middle)
	for i, kilos := range m.kilos {
		sum += kilos * (m.f.Rear - m.f.Loads[i].At)
	}
	return sum
}

func (m model) stands() bool { return m.front() >= 0 && m.rear() >= 0 }

func (m model) passes(h api.Hurdle) bool {
	switch h.Kind {
	case api.HurdleBend:
		return turns(m.f, h)
	case api.HurdleWire:
		return m.height() <= h.A
	}
	return m.total() <= h.A && m.front() <= h.B*m.base() && m.rear() <= h.B*m.base()
}

// turns looks at all radii of a bend: the corner is never nearer than the radius.
func turns(f api.Float, h api.Hurdle) bool {
	behind := max(f.Rear, f.Length-f.Rear)
	for radius := f.Turn; radius <= h.B; radius++ {
		beside := 2*radius + f.Width
		if 2*radius-f.Width >= 2*h.A && beside*beside+4*behind*behind <= 4*h.B*h.B {
			return true
		}
	}
	return false
}

// down is the greatest whole number that is not above a fraction, up is the least one that is not below.
func down(n, by int) int {
	whole := 0
	for whole*by > n {
		whole--
	}
	for (whole+1)*by <= n {
		whole++
	}
	return whole
}

func up(n, by int) int {
	whole := down(n, by)
	if whole*by < n {
		whole++
	}
	return whole
}

// numbers hands out all lists that have a number of each span.
func numbers(spans []api.Span) iter.Seq[[]int] {
	return func(yield func([]int) bool) {
		var choose func(chosen []int) bool
		choose = func(chosen []int) bool {
			if len(chosen) == len(spans) {
				return yield(slices.Clone(chosen))
			}
			next := spans[len(chosen)]
			for n := next.Lo; n <= next.Hi; n++ {
				if !choose(append(chosen, n)) {
					return false
				}
			}
			return true
		}
		choose(nil)
	}
}

// truths hands out a float with all true weights and tops, one after the other.
func truths(f api.Float) iter.Seq[model] {
	return func(yield func(model) bool) {
		var kilos, tops []api.Span
		for _, l := range f.Loads {
			kilos, tops = append(kilos, l.Kilos), append(tops, l.Top)
		}
		for k := range numbers(kilos) {
			for t := range numbers(tops) {
				if !yield(model{f, k, t}) {
					return
				}
			}
		}
	}
}

// reach is the least and the greatest of what is asked of all truths.
func reach(f api.Float, ask func(m model) int) api.Span {
	var all []int
	for m := range truths(f) {
		all = append(all, ask(m))
	}
	return span(slices.Min(all), slices.Max(all))
}

// carries is what one axle carries at least, rounded down, and at most, rounded up.
func carries(f api.Float, axle func(m model) int) api.Span {
	x, base := reach(f, axle), f.Rear-f.Front
	return span(down(x.Lo, base), up(x.Hi, base))
}

// verdict is that on what is asked of all truths.
func verdict(f api.Float, is func(m model) bool) int {
	so, notSo := false, false
	for m := range truths(f) {
		if is(m) {
			so = true
		} else {
			notSo = true
		}
	}
	switch {
	case so && notSo:
		return open
	case so:
		return sure
	}
	return never
}

// verdicts are those on all hurdles of a route.
func verdicts(f api.Float, route []api.Hurdle) []int {
	var all []int
	for _, h := range route {
		all = append(all, verdict(f, func(m model) bool { return m.passes(h) }))
	}
	return all
}

// stops is the first hurdle that a float does not surely pass.
func stops(f api.Float, route []api.Hurdle) int {
	for i, v := range verdicts(f, route) {
		if v != sure {
			return i
		}
	}
	return -1
}

// trial is a small float with a route.
type trial struct {
	f     api.Float
	route []api.Hurdle
}

// trials are small floats of up to so many loads, and short routes, the same ones each time.
func trials(many, loads int) []trial {
	pick := rand.New(rand.NewPCG(3, 4))
	var all []trial
	for range many {
		f := smallFrame(pick)
		for range pick.IntN(loads + 1) {
			f.Loads = append(f.Loads, smallLoad(pick, f))
		}
		var route []api.Hurdle
		for range pick.IntN(6) {
			route = append(route, smallHurdle(pick, f))
		}
		all = append(all, trial{f, route})
	}
	return all
}

func smallFrame(pick *rand.Rand) api.Float {
	f := api.Float{Length: 2 + pick.IntN(10), Width: 1 + pick.IntN(6), Turn: pick.IntN(6), Kilos: pick.IntN(9), High: pick.IntN(5)}
	f.Front = pick.IntN(f.Length)
	f.Rear = f.Front + 1 + pick.IntN(f.Length-f.Front)
	f.Middle = pick.IntN(f.Length + 1)
	return f
}

func smallLoad(pick *rand.Rand, f api.Float) api.Load {
	kilos, top := pick.IntN(5), pick.IntN(7)
	l := api.Load{
		At:    f.Front + pick.IntN(f.Rear-f.Front+1),
		Kilos: span(kilos, kilos+pick.IntN(4)),
		Top:   span(top, top+pick.IntN(3)),
		Kind:  1 + pick.IntN(4),
	}
	if l.Kind == api.LoadPower || l.Kind == api.LoadLamp {
		l.Watts = pick.IntN(50)
	}
	return l
}

// smallHurdle is a hurdle that a small float may just pass, or just not pass.
func smallHurdle(pick *rand.Rand, f api.Float) api.Hurdle {
	switch 1 + pick.IntN(3) {
	case api.HurdleBend:
		inner := pick.IntN(12)
		return bend(inner, inner+1+pick.IntN(f.Length+f.Width+6))
	case api.HurdleWire:
		return wire(pick.IntN(10))
	}
	return bridge(f.Kilos+pick.IntN(20), pick.IntN(f.Kilos+15))
}
