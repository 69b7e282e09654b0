package float_test

import (
	"slices"
	"testing"

	"bateria/api"
	"bateria/float"
)

// said is all that the package says of a float.
type said struct {
	total, front, rear, height api.Span
	stands                     int
}

func says(t *testing.T, f api.Float) said {
	t.Helper()
	total, e1 := float.Total(f)
	front, rear, e2 := float.Axles(f)
	height, e3 := float.Height(f)
	stands, e4 := float.Stands(f)
	if e1 != api.OK || e2 != api.OK || e3 != api.OK || e4 != api.OK {
		t.Fatal(f, e1, e2, e3, e4)
	}
	return said{total, front, rear, height, stands}
}

func passes(t *testing.T, f api.Float, route []api.Hurdle) []int {
	t.Helper()
	l, e := float.Passes(f, route)
	if e != api.OK || len(l) != len(route) {
		t.Fatal(f, route, l, e)
	}
	return l
}

func holds(x api.Span, least, greatest int) bool { return x.Lo <= least && greatest <= x.Hi }

// P2.6: in each truth all is as it is said.
func TestTrue(t *testing.T) {
	for _, x := range trials(200, 3) {
		s, l := says(t, x.f), passes(t, x.f, x.route)
		for m := range truths(x.f) {
			front, rear, base := m.front(), m.rear(), m.base()
			if !holds(s.total, m.total(), m.total()) || !holds(s.height, m.height(), m.height()) {
				t.Error(x.f, m, s)
			}
			if front < s.front.Lo*base || front > s.front.Hi*base || rear < s.rear.Lo*base || rear > s.rear.Hi*base {
				t.Error(x.f, m, s)
			}
			if s.stands == sure && !m.stands() || s.stands == never && m.stands() {
				t.Error(x.f, m, s)
			}
			for i, h := range x.route {
				if l[i] == sure && !m.passes(h) || l[i] == never && m.passes(h) {
					t.Error(x.f, m, h, l[i])
				}
			}
		}
	}
}

// P2.7: the ends of all numbers belong to a truth, and so does each verdict that is Open to two.
func TestEnds(t *testing.T) {
	seen := map[[2]int]bool{}
	below := 0
	for _, x := range trials(400, 3) {
		want := said{
			reach(x.f, model.total), carries(x.f, model.front), carries(x.f, model.rear), reach(x.f, model.height), verdict(x.f, model.stands),
		}
		s, l := says(t, x.f), passes(t, x.f, x.route)
		if s != want {
			t.Error(x.f, s, want)
		}
		if v := verdicts(x.f, x.route); !slices.Equal(l, v) {
			t.Error(x.f, x.route, l, v)
		}
		seen[[2]int{0, s.stands}] = true
		for i, h := range x.route {
			seen[[2]int{h.Kind, l[i]}] = true
		}
		if s.front.Lo < 0 || s.rear.Lo < 0 {
			below++
		}
	}
	// no truth of a load changes how a float turns
	if len(seen) != 4*3-1 || seen[[2]int{api.HurdleBend, open}] || below == 0 {
		t.Error("not all verdicts were seen, or no axle carries less than 0:", seen, below)
	}
}

// turned is a float whose front end is its rear end.
func turned(f api.Float) api.Float {
	f.Front, f.Rear, f.Middle = f.Length-f.Rear, f.Length-f.Front, f.Length-f.Middle
	f.Loads = slices.Clone(f.Loads)
	for i := range f.Loads {
		f.Loads[i].At = f.Length - f.Loads[i].At
	}
	return f
}

// known is a float whose load is known: that of a truth.
func known(m model) api.Float {
	f := m.f
	f.Loads = slices.Clone(f.Loads)
	for i := range f.Loads {
		f.Loads[i].Kilos, f.Loads[i].Top = one(m.kilos[i]), one(m.tops[i])
	}
	return f
}

// P2.8: both axles carry the total, and a float that is turned round carries the same, the other way round.
func TestBalance(t *testing.T) {
	for _, x := range trials(200, 2) {
		s, around := says(t, x.f), says(t, turned(x.f))
		if around != (said{s.total, s.rear, s.front, s.height, s.stands}) {
			t.Error(x.f, s, around)
		}
		for m := range truths(x.f) {
			// one axle is rounded down, the other one up by as much
			k := says(t, known(m))
			if k.total != one(m.total()) || k.front.Lo+k.rear.Hi != m.total() || k.front.Hi+k.rear.Lo != m.total() {
				t.Error(x.f, m, k)
			}
		}
	}
}

// P2.9: with narrower spans nothing is wider, and what is Sure or Never stays.
func TestLessKnown(t *testing.T) {
	for i, x := range trials(400, 4) {
		f := x.f
		f.Loads = slices.Clone(f.Loads)
		for j := range f.Loads {
			for k, s := range []*api.Span{&f.Loads[j].Kilos, &f.Loads[j].Top} {
				switch {
				case s.Lo == s.Hi:
				case (i+j+k)%2 == 0:
					s.Lo++
				default:
					s.Hi--
				}
			}
		}
		wide, narrow := says(t, x.f), says(t, f)
		for j, pair := range [][2]api.Span{{wide.total, narrow.total}, {wide.front, narrow.front}, {wide.rear, narrow.rear}, {wide.height, narrow.height}} {
			if !holds(pair[0], pair[1].Lo, pair[1].Hi) {
				t.Error(x.f, f, j, pair)
			}
		}
		before := append(passes(t, x.f, x.route), wide.stands)
		after := append(passes(t, f, x.route), narrow.stands)
		for j, v := range before {
			if v != open && after[j] != v {
				t.Error(x.f, f, x.route, j, v, after[j])
			}
		}
	}
}

// P2.10: a float passes a bend just if there is a radius with which it turns in it, and it passes a wider one, too.
func TestBends(t *testing.T) {
	tight, turning := 0, 0
	for _, x := range trials(60, 0) {
		for inner := range 12 {
			passed := false
			for outer := inner + 1; outer < inner+24; outer++ {
				l := passes(t, x.f, []api.Hurdle{bend(inner, outer), bend(max(0, inner-1), outer)})
				want := never
				if turns(x.f, bend(inner, outer)) {
					want = sure
				}
				if l[0] != want || l[0] == sure && l[1] != sure || passed && l[0] != sure {
					t.Error(x.f, inner, outer, l, want)
				}
				passed = l[0] == sure
			}
			if passed && 2*x.f.Turn-x.f.Width >= 2*inner {
				turning++
			} else if passed {
				tight++
			}
		}
	}
	if tight == 0 || turning == 0 {
		t.Error("no bend asks for more than the least radius, or none for it:", tight, turning)
	}
}

// P2.10: the greatest float, and bends that let it just pass, and just not.
func TestGreatBends(t *testing.T) {
	f := api.Float{Length: 3000, Width: 999, Rear: 1, Middle: 1}
	for _, inner := range []int{0, 1, 499, 500, 9000, 15000, 19498, 19499, 19500, 19999} {
		for _, turn := range []int{0, 499, 500, 9000, 16000, 20000} {
			f.Turn = turn
			for _, outer := range []int{inner + 1, 3161, 3162, 3163, 10000, 10952, 10953, 16758, 16759, 19999, 20000} {
				if outer <= inner {
					continue
				}
				want := never
				if turns(f, bend(inner, outer)) {
					want = sure
				}
				if l := passes(t, f, []api.Hurdle{bend(inner, outer)}); l[0] != want {
					t.Error(turn, inner, outer, l, want)
				}
			}
		}
	}
}

// P2.11: with just so much ballast as said the float surely stands and passes all hurdles.
func TestBallasted(t *testing.T) {
	some, missing, least := 0, 0, 0
	for _, x := range trials(400, 2) {
		route := append(x.route, bridge(60, 50))
		for at := x.f.Front; at <= x.f.Rear; at++ {
			got, e := float.Ballast(x.f, route, at)
			if e == api.ErrMissing {
				missing++
				got = span(1, 0)
			} else if e != api.OK || got.Lo > got.Hi || got.Hi > 60 {
				t.Fatal(x.f, route, at, got, e)
			} else if got.Lo > 0 {
				least++
			} else {
				some++
			}
			for _, kilos := range []int{0, 1, 2, 3, 4, got.Lo - 1, got.Lo, got.Lo + 1, got.Hi - 1, got.Hi, got.Hi + 1, 30, 60, 61, 100, 99999, 100000} {
				if kilos < 0 {
					continue
				}
				f := x.f
				f.Loads = append(slices.Clone(f.Loads), api.Load{At: at, Kilos: one(kilos), Kind: api.LoadPlain})
				stands := verdict(f, model.stands) == sure && stops(f, route) < 0
				if stands != (kilos >= got.Lo && kilos <= got.Hi) {
					t.Error(x.f, route, at, kilos, got, e)
				}
			}
		}
	}
	if some == 0 || missing == 0 || least == 0 {
		t.Error("no ballast was asked for, none was missing, or none was too little:", some, missing, least)
	}
}

// P2.12: hurdles can stand in any order, and the first one that is not surely passed stops a float.
func TestRoutes(t *testing.T) {
	stopped, passed := 0, 0
	for i, x := range trials(400, 3) {
		l := passes(t, x.f, x.route)
		stop, e := float.Stops(x.f, x.route)
		if want := stops(x.f, x.route); stop != want || e != api.OK {
			t.Error(x.f, x.route, stop, e, want)
		}
		if stop > 0 {
			stopped++
		} else if len(x.route) > 0 && stop < 0 {
			passed++
		}
		if len(x.route) == 0 {
			continue
		}
		by := i % len(x.route)
		route := append(slices.Clone(x.route[by:]), x.route[:by]...)
		slices.Reverse(route)
		want := append(slices.Clone(l[by:]), l[:by]...)
		slices.Reverse(want)
		if got := passes(t, x.f, route); !slices.Equal(got, want) {
			t.Error(x.f, route, got, want)
		}
	}
	if stopped == 0 || passed == 0 {
		t.Error("no route was stopped behind its first hurdle, or none was passed:", stopped, passed)
	}
}

// near is what Fire has to find.
func near(f api.Float, apart int) (all []api.Near, spare int) {
	for i, a := range f.Loads {
		for j, b := range f.Loads {
			if a.Kind == api.LoadPower && b.Kind == api.LoadFire && a.At-b.At < apart && b.At-a.At < apart {
				all = append(all, api.Near{Power: i, Fire: j})
			}
		}
		if a.Kind == api.LoadPower {
			spare += a.Watts
		} else {
			spare -= a.Watts
		}
	}
	return all, spare
}

// P2.13: with a greater distance no pair is gone, and a generator more leaves no less power.
func TestFires(t *testing.T) {
	for i, x := range trials(200, 12) {
		var before []api.Near
		for apart := range 13 {
			pairs, spare, e := float.Fire(x.f, apart)
			if want, watts := near(x.f, apart); !slices.Equal(pairs, want) || spare != watts || e != api.OK {
				t.Error(x.f, apart, pairs, spare, e, want, watts)
			}
			for _, pair := range before {
				if !slices.Contains(pairs, pair) {
					t.Error(x.f, apart, pair)
				}
			}
			before = pairs
			more := x.f
			generator := api.Load{At: x.f.Front, Kind: api.LoadPower, Watts: i % 7}
			more.Loads = append(slices.Clone(x.f.Loads), generator)
			if _, power, e := float.Fire(more, apart); power != spare+generator.Watts || e != api.OK {
				t.Error(more, apart, power, spare, e)
			}
		}
	}
}
