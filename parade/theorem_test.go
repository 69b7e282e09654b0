package parade_test

import (
	"slices"
	"testing"

	"bateria/api"
	"bateria/parade"
)

// P1.7: what may truly be, and nothing else, is returned, and both ends are reached.
func TestTrue(t *testing.T) {
	for _, x := range trials(150, 4) {
		if got, want := lasts(x), reach(x.s, x.starts, model.lasts); got != want {
			t.Error(x, got, want)
		}
		for wing := range x.s.Wings {
			for second := range seconds(x, wing) {
				want := reach(x.s, x.starts, func(m model) int { return m.front(wing, second) })
				if got := where(x, wing, second); got != want {
					t.Error(x, wing, second, got, want)
				}
				if wing == 0 {
					continue
				}
				want = reach(x.s, x.starts, func(m model) int { return m.gap(wing, second) })
				if got := gap(x, wing, second); got != want {
					t.Error(x, wing, second, got, want)
				}
			}
			for place := range x.s.Route + 10 {
				want := reach(x.s, x.starts, func(m model) int { return m.first(m.front, wing, place) })
				if got := passes(x, wing, place); got != want {
					t.Error(x, wing, place, got, want)
				}
			}
		}
	}
}

// P1.8: no front is beyond the tail of the wing before it, and no gap is below 0.
func TestNoneThroughAnother(t *testing.T) {
	for _, x := range trials(300, 8) {
		for wing := 1; wing < len(x.s.Wings); wing++ {
			for second := x.starts[wing]; second < x.starts[wing]+60; second++ {
				front, before := where(x, wing, second), where(x, wing-1, second)
				length := x.s.Wings[wing-1].Length
				if front.Lo > before.Lo-length || front.Hi > before.Hi-length {
					t.Error(x, wing, second, front, before)
				}
				if gap(x, wing, second).Lo < 0 {
					t.Error(x, wing, second)
				}
			}
		}
	}
}

// P1.9: nobody goes back, and a farther place is not passed before a nearer one.
func TestOn(t *testing.T) {
	for _, x := range trials(300, 8) {
		for wing := range x.s.Wings {
			place := span(0, 0)
			for second := x.starts[wing]; second < x.starts[wing]+60; second++ {
				next := where(x, wing, second)
				if next.Lo < place.Lo || next.Hi < place.Hi {
					t.Error(x, wing, second, place, next)
				}
				place = next
			}
			second := span(x.starts[wing], x.starts[wing])
			for place := range 60 {
				next := passes(x, wing, place)
				if next.Lo < second.Lo || next.Hi < second.Hi {
					t.Error(x, wing, place, second, next)
				}
				second = next
			}
		}
	}
}

// P1.10: the verdict of Lasts is so for each truth.
func TestInTime(t *testing.T) {
	seen := map[int]bool{}
	for _, x := range trials(100, 4) {
		around := lasts(x)
		for _, r := range []api.Rules{
			{Least: around.Lo, Most: around.Hi},
			{Least: around.Lo + 1, Most: around.Hi + 1},
			{Least: around.Lo - 1, Most: max(around.Lo, around.Hi-1)},
			{Least: around.Hi + 1, Most: around.Hi + 9},
			{Least: 0, Most: around.Lo - 1},
		} {
			v, _, e := parade.Lasts(x.s, x.starts, r)
			if e != api.OK {
				t.Fatal(x, r, e)
			}
			seen[v] = true
			for m := range truths(x.s, x.starts) {
				kept := m.lasts() >= r.Least && m.lasts() <= r.Most
				if v == sure && !kept || v == never && kept {
					t.Error(x, r, v, m.paces)
				}
			}
		}
	}
	if !seen[sure] || !seen[never] || !seen[open] {
		t.Error("a verdict was never seen:", seen)
	}
}

// P1.11 and P1.4: what Opens and Widest say is so for all truths.
func TestGaps(t *testing.T) {
	seen := map[int]bool{}
	for _, x := range trials(150, 4) {
		w, at, g := widest(x.s, x.starts)
		wing, second, gap, e := parade.Widest(x.s, x.starts)
		if wing != w || second != at || gap != g || e != api.OK {
			t.Error(x, wing, second, gap, e, "want", w, at, g)
		}
		for _, wide := range []int{0, 1, 2, 4, max(0, g-1), g} {
			var want []int
			for wing := range x.s.Wings {
				want = append(want, opens(x.s, x.starts, wing, wide))
				seen[want[wing]] = true
			}
			if got, e := parade.Opens(x.s, x.starts, api.Rules{Gap: wide}); e != api.OK || !slices.Equal(got, want) {
				t.Error(x, wide, got, e, want)
			}
		}
	}
	if !seen[sure] || !seen[never] || !seen[open] {
		t.Error("a verdict was never seen:", seen)
	}
}

// P1.12 and P1.5: all plans are looked at, and more time never makes the gaps wider.
func TestPlans(t *testing.T) {
	waited, missing := 0, 0
	for _, x := range trials(60, 3) {
		start := trial{x.s, plans(x.s)[0]}
		around := lasts(start)
		narrowest := -1
		for more := range 8 {
			// the time gets longer by a second at one of its ends, again and again
			r := api.Rules{Least: max(0, around.Lo+4-(more+1)/2), Most: around.Hi + 4 + more/2}
			want, wide := plan(x.s, r)
			starts, gap, e := parade.Plan(x.s, r)
			if want == nil {
				missing++
				if e != api.ErrMissing || len(starts) > 0 || gap != 0 || narrowest >= 0 {
					t.Error(x.s, r, starts, gap, e)
				}
				continue
			}
			if !slices.Equal(starts, want) || gap != wide || e != api.OK {
				t.Error(x.s, r, starts, gap, e, want, wide)
			}
			if narrowest >= 0 && gap > narrowest {
				t.Error(x.s, r, gap, narrowest)
			}
			narrowest = gap
			if !slices.Equal(starts, start.starts) {
				waited++
			}
		}
	}
	if waited == 0 || missing == 0 {
		t.Error("no plan waits, or none is missing:", waited, missing)
	}
}

// P1.12: of plans with gaps that are as wide as each other, the first one is chosen.
func TestFirstPlan(t *testing.T) {
	s := api.School{Route: 1, Wings: named(3, 10, span(5, 5))}
	starts, g, e := parade.Plan(s, api.Rules{Least: 8, Most: 9})
	if want, wide := plan(s, api.Rules{Least: 8, Most: 9}); !slices.Equal(starts, want) || g != wide || e != api.OK {
		t.Error(starts, g, e, want, wide)
	}
	ties := 0
	for _, x := range trials(100, 3) {
		r := api.Rules{Least: 0, Most: 1000}
		want, wide := plan(x.s, r)
		for _, other := range plans(x.s) {
			if _, _, g := widest(x.s, other); g == wide && !slices.Equal(other, want) {
				ties++
				break
			}
		}
		if starts, _, e := parade.Plan(x.s, r); !slices.Equal(starts, want) || e != api.OK {
			t.Error(x.s, starts, e, want)
		}
	}
	if ties == 0 {
		t.Error("no plans were equally good")
	}
}

// P1.13: with narrower paces nothing gets wider, and what is decided stays so.
func TestNarrower(t *testing.T) {
	for i, x := range trials(200, 5) {
		narrow := trial{api.School{Route: x.s.Route, Wings: slices.Clone(x.s.Wings)}, x.starts}
		for wing := range narrow.s.Wings {
			pace := &narrow.s.Wings[wing].Pace
			if (i+wing)%2 == 0 {
				pace.Lo = min(pace.Lo+1, pace.Hi)
			} else {
				pace.Hi = max(pace.Hi-1, pace.Lo)
			}
		}
		if !inside(lasts(narrow), lasts(x)) {
			t.Error(x, narrow)
		}
		around := lasts(x)
		for least := max(0, around.Lo-2); least <= around.Hi+2; least++ {
			for most := least; most <= around.Hi+2; most++ {
				r := api.Rules{Least: least, Most: most}
				before, _, _ := parade.Lasts(x.s, x.starts, r)
				after, _, _ := parade.Lasts(narrow.s, narrow.starts, r)
				if before != open && after != before {
					t.Error(x, r, before, after)
				}
			}
		}
		for wing := range x.s.Wings {
			for at := range 40 {
				second := x.starts[wing] + at
				if !inside(where(narrow, wing, second), where(x, wing, second)) || !inside(passes(narrow, wing, at), passes(x, wing, at)) {
					t.Error(x, narrow, wing, at)
				}
				if wing > 0 && !inside(gap(narrow, wing, second), gap(x, wing, second)) {
					t.Error(x, narrow, wing, at)
				}
			}
		}
	}
}
