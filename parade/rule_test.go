package parade_test

import (
	"math"
	"reflect"
	"slices"
	"strings"
	"testing"

	"bateria/api"
	"bateria/parade"
)

var strange = []int{math.MinInt, math.MinInt + 1, -1, 0, 1, 2, api.MaxSecond, api.MaxRoute, math.MaxInt - 1, math.MaxInt}

// P1 and R5: any values are taken, and all functions return; R3: with an error the other results are zero values.
func TestStrangeArguments(t *testing.T) {
	zero := api.Span{}
	for _, a := range strange {
		for _, b := range strange {
			if x, e := parade.Where(samba(), tight(), a, b); e != api.OK && x != zero {
				t.Error("Where", a, b, x, e)
			}
			if x, e := parade.Passes(samba(), tight(), a, b); e != api.OK && x != zero {
				t.Error("Passes", a, b, x, e)
			}
			if x, e := parade.Gap(samba(), tight(), a, b); e != api.OK && x != zero {
				t.Error("Gap", a, b, x, e)
			}
			starts := []int{a, b, b}
			r := api.Rules{Least: a, Most: b, Gap: a}
			if v, x, e := parade.Lasts(samba(), starts, r); e != api.OK && (v != 0 || x != zero) {
				t.Error("Lasts", a, b, v, x, e)
			}
			if l, e := parade.Opens(samba(), starts, r); e != api.OK && len(l) > 0 {
				t.Error("Opens", a, b, l, e)
			}
			if w, at, g, e := parade.Widest(samba(), starts); e != api.OK && (w != 0 || at != 0 || g != 0) {
				t.Error("Widest", a, b, w, at, g, e)
			}
			if l, g, e := parade.Plan(samba(), r); e != api.OK && (len(l) > 0 || g != 0) {
				t.Error("Plan", a, b, l, g, e)
			}
			s := changed(func(s *api.School) { s.Route, s.Wings[1].Length, s.Wings[1].Pace = a, b, span(b, a) })
			if l, e := parade.Least(s); e != api.OK && len(l) > 0 {
				t.Error("Least", a, b, l, e)
			}
			if l, g, e := parade.Plan(s, rules()); e != api.OK && (len(l) > 0 || g != 0) {
				t.Error("Plan", a, b, l, g, e)
			}
			if text, e := parade.Write(s); e != api.OK && text != "" {
				t.Error("Write", a, b, text, e)
			}
		}
	}
	for _, text := range []string{"\x00", "\xff\xfe\n", strings.Repeat("\n", 1000), strings.Repeat(" ", 1000), "avenue 9\nwing \xff 1 1 1\nend 1\n"} {
		if s, _, e := parade.Read(text); e == api.OK || s.Route != 0 || len(s.Wings) > 0 {
			t.Errorf("Read %q %v %v", text, s, e)
		}
	}
}

// R4: arguments are not changed, and results are new memory.
func TestMemory(t *testing.T) {
	s, starts := samba(), tight()
	parade.CheckStarts(s, starts)
	parade.Where(s, starts, 2, 20)
	parade.Passes(s, starts, 2, 20)
	parade.Lasts(s, starts, rules())
	parade.Gap(s, starts, 2, 20)
	parade.Widest(s, starts)
	parade.Write(s)
	for range 2 { // a second time, after the results of the first one were changed
		least, _ := parade.Least(s)
		verdicts, _ := parade.Opens(s, starts, rules())
		planned, _, _ := parade.Plan(s, rules())
		got, _, _ := parade.Read(program)
		if !slices.Equal(least, tight()) || !slices.Equal(verdicts, []int{never, never, open}) || !slices.Equal(planned, tight()) || !reflect.DeepEqual(got, samba()) {
			t.Error(least, verdicts, planned, got)
		}
		least[0], verdicts[0], planned[0], got.Wings[0].Length = 9, 9, 9, 9
	}
	if !reflect.DeepEqual(s, samba()) || !slices.Equal(starts, tight()) {
		t.Error(s, starts)
	}
}

// R7: the greatest numbers are exact, and take no time to find.
func TestGreatest(t *testing.T) {
	slow := api.School{Route: api.MaxRoute, Wings: named(8, 5000, span(1, 200))}
	slow.Wings[0].Pace = span(200, 200)
	starts := []int{20000 - 25*7}
	for wing := 1; wing < 8; wing++ {
		slow.Wings[wing].Pace = span(200, 200)
		starts = append(starts, starts[wing-1]+25)
	}
	slow.Wings[7].Pace = span(1, 200)
	if x, e := parade.Where(slow, starts, 7, api.MaxRoute); x != span(80000, 16000000) || e != api.OK {
		t.Error(x, e)
	}
	if x, e := parade.Passes(slow, starts, 7, api.MaxRoute); x != span(20500, 120000) || e != api.OK {
		t.Error(x, e)
	}
	if v, x, e := parade.Lasts(slow, starts, api.Rules{Most: api.MaxRoute}); v != open || x != span(700, 105175) || e != api.OK {
		t.Error(v, x, e)
	}
	if w, at, g, e := parade.Widest(slow, starts); w != 7 || at != 20499 || g != 499*199 || e != api.OK {
		t.Error(w, at, g, e)
	}
	// 256 plans of a parade that takes more than a day
	long := api.School{Route: api.MaxRoute, Wings: named(5, 1, span(1, 1))}
	if l, g, e := parade.Plan(long, api.Rules{Most: api.MaxRoute}); e != api.ErrMissing || len(l) > 0 || g != 0 {
		t.Error(l, g, e)
	}
	long.Route = api.MaxRoute - 5
	if l, g, e := parade.Plan(long, api.Rules{Least: api.MaxRoute, Most: api.MaxRoute}); e != api.OK || !slices.Equal(l, []int{0, 1, 2, 3, 4}) || g != 0 {
		t.Error(l, g, e)
	}
}
