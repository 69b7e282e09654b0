package parade_test

import (
	"slices"
	"testing"

	"bateria/api"
	"bateria/parade"
)

const sure, never, open = api.Sure, api.Never, api.Open

// named are many wings with names that differ.
func named(many, length int, pace api.Span) []api.Wing {
	var wings []api.Wing
	for i := range many {
		wings = append(wings, api.Wing{Name: string(rune('a' + i)), Length: length, Pace: pace})
	}
	return wings
}

var schools = []struct {
	about  string
	change func(s *api.School)
	want   api.Errno
}{
	{"the example", func(s *api.School) {}, api.OK},
	{"least numbers", func(s *api.School) { s.Route, s.Wings = 1, named(1, 1, span(1, 1)) }, api.OK},
	{"greatest numbers", func(s *api.School) { s.Route, s.Wings = 100000, named(8, 5000, span(200, 200)) }, api.OK},
	{"a long name", func(s *api.School) { s.Wings[1].Name = "abcdefgz" }, api.OK},
	{"no route", func(s *api.School) { s.Route = 0 }, api.ErrRange},
	{"too long a route", func(s *api.School) { s.Route = 100001 }, api.ErrRange},
	{"no route before no wings", func(s *api.School) { s.Route, s.Wings = -1, nil }, api.ErrRange},
	{"no route before too many wings", func(s *api.School) { s.Route, s.Wings = -1, named(9, 1, span(1, 1)) }, api.ErrRange},
	{"no wings", func(s *api.School) { s.Wings = nil }, api.ErrShort},
	{"no wings, not nil", func(s *api.School) { s.Wings = []api.Wing{} }, api.ErrShort},
	{"too many wings", func(s *api.School) { s.Wings = named(9, 1, span(1, 1)) }, api.ErrFull},
	{"too many wings before what they are", func(s *api.School) { s.Wings = make([]api.Wing, 9) }, api.ErrFull},
	{"no name", func(s *api.School) { s.Wings[2].Name = "" }, api.ErrForm},
	{"too long a name", func(s *api.School) { s.Wings[2].Name = "abcdefghi" }, api.ErrForm},
	{"a capital", func(s *api.School) { s.Wings[2].Name = "bAck" }, api.ErrForm},
	{"before a", func(s *api.School) { s.Wings[2].Name = "b`" }, api.ErrForm},
	{"behind z", func(s *api.School) { s.Wings[2].Name = "b{" }, api.ErrForm},
	{"no letter", func(s *api.School) { s.Wings[2].Name = "b1" }, api.ErrForm},
	{"no small letter of a to z", func(s *api.School) { s.Wings[2].Name = "é" }, api.ErrForm},
	{"a name before the length", func(s *api.School) { s.Wings[2].Name, s.Wings[2].Length = "B", 0 }, api.ErrForm},
	{"a name twice", func(s *api.School) { s.Wings[1].Name = "front" }, api.ErrExists},
	{"a name twice, not beside", func(s *api.School) { s.Wings[2].Name = "front" }, api.ErrExists},
	{"twice before the length", func(s *api.School) { s.Wings[1].Name, s.Wings[1].Length = "front", 0 }, api.ErrExists},
	{"no length", func(s *api.School) { s.Wings[1].Length = 0 }, api.ErrRange},
	{"too long", func(s *api.School) { s.Wings[1].Length = 5001 }, api.ErrRange},
	{"no pace", func(s *api.School) { s.Wings[1].Pace = span(0, 60) }, api.ErrRange},
	{"no pace at most", func(s *api.School) { s.Wings[1].Pace = span(50, 0) }, api.ErrRange},
	{"too fast", func(s *api.School) { s.Wings[1].Pace = span(50, 201) }, api.ErrRange},
	{"too fast at least", func(s *api.School) { s.Wings[1].Pace = span(201, 60) }, api.ErrRange},
	{"a length before the order", func(s *api.School) { s.Wings[1].Length, s.Wings[1].Pace = 0, span(60, 50) }, api.ErrRange},
	{"the order", func(s *api.School) { s.Wings[0].Pace = span(50, 40) }, api.ErrOrder},
	{"the order of one wing before the name of the next", func(s *api.School) { s.Wings[0].Pace, s.Wings[1].Name = span(50, 40), "" }, api.ErrOrder},
}

// P1.1: Check returns the first error of a school, and so does each function first of all.
func TestCheck(t *testing.T) {
	for _, c := range schools {
		s := changed(c.change)
		if e := parade.Check(s); e != c.want {
			t.Error(c.about, e)
		}
		if c.want == api.OK {
			continue
		}
		bad := api.Rules{Gap: -1}
		_, least := parade.Least(s)
		_, where := parade.Where(s, nil, -1, -1)
		_, passes := parade.Passes(s, nil, -1, -1)
		_, _, lasts := parade.Lasts(s, nil, bad)
		_, gap := parade.Gap(s, nil, -1, -1)
		_, opens := parade.Opens(s, nil, bad)
		_, _, _, widest := parade.Widest(s, nil)
		_, _, plan := parade.Plan(s, bad)
		_, write := parade.Write(s)
		for i, e := range []api.Errno{parade.CheckStarts(s, nil), least, where, passes, lasts, gap, opens, widest, plan, write} {
			if e != c.want {
				t.Error(c.about, i, e)
			}
		}
	}
}

// P1.1: CheckStarts looks at starts wing by wing, and others return its error before their own.
func TestCheckStarts(t *testing.T) {
	for _, c := range []struct {
		starts []int
		want   api.Errno
	}{
		{[]int{0, 3, 8}, api.OK},
		{[]int{0, 3, 20000}, api.OK},
		{[]int{7, 10, 15}, api.OK},
		{[]int{0, 4, 8}, api.OK},
		{[]int{0, 5, 9}, api.OK},
		{[]int{0, 5, 8}, api.ErrLate},
		{[]int{0, 2, 10}, api.ErrLate},
		{[]int{0, 3, 7}, api.ErrLate},
		{[]int{0, 3}, api.ErrForm},
		{[]int{0, 3, 8, 9}, api.ErrForm},
		{[]int{-1, 3}, api.ErrForm},
		{nil, api.ErrForm},
		{[]int{-1, 3, 8}, api.ErrRange},
		{[]int{0, 3, 20001}, api.ErrRange},
		{[]int{0, -1, 8}, api.ErrRange},
		{[]int{20001, 3, 8}, api.ErrRange},
		{[]int{0, 2, 20001}, api.ErrLate},
		{[]int{20000, 20000, 20000}, api.ErrLate},
	} {
		if e := parade.CheckStarts(samba(), c.starts); e != c.want {
			t.Error(c.starts, e)
		}
		if c.want == api.OK {
			continue
		}
		bad := api.Rules{Gap: -1}
		_, where := parade.Where(samba(), c.starts, -1, -1)
		_, passes := parade.Passes(samba(), c.starts, -1, -1)
		_, _, lasts := parade.Lasts(samba(), c.starts, bad)
		_, gap := parade.Gap(samba(), c.starts, -1, -1)
		_, opens := parade.Opens(samba(), c.starts, bad)
		_, _, _, widest := parade.Widest(samba(), c.starts)
		for i, e := range []api.Errno{where, passes, lasts, gap, opens, widest} {
			if e != c.want {
				t.Error(c.starts, i, e)
			}
		}
	}
}

// P1.1: Least gives each wing its least start, up to the last second.
func TestLeast(t *testing.T) {
	slow := func(wings int) api.School {
		return api.School{Route: 1, Wings: named(wings, 5000, span(1, 1))}
	}
	later := slow(6)
	later.Wings[0].Length = 4999
	later.Wings[4].Length = 1
	beyond := slow(6)
	beyond.Wings[4].Length = 1
	for i, c := range []struct {
		s    api.School
		want []int
		e    api.Errno
	}{
		{samba(), tight(), api.OK},
		{slow(1), []int{0}, api.OK},
		{slow(5), []int{0, 5000, 10000, 15000, 20000}, api.OK},
		{slow(6), nil, api.ErrRange},
		{later, []int{0, 4999, 9999, 14999, 19999, 20000}, api.OK},
		{beyond, nil, api.ErrRange},
	} {
		if l, e := parade.Least(c.s); e != c.e || !slices.Equal(l, c.want) {
			t.Error(i, l, e)
		}
	}
	for _, x := range trials(300, 4) {
		var want []int
		for range x.s.Wings {
			want = append(want, leastStart(x.s, want))
		}
		if l, e := parade.Least(x.s); e != api.OK || !slices.Equal(l, want) {
			t.Error(x, l, e, want)
		}
	}
}

// P1.2: Where, and its errors in their order.
func TestWhere(t *testing.T) {
	for _, c := range []struct {
		wing, second int
		want         api.Span
		e            api.Errno
	}{
		{0, 10, span(400, 500), api.OK},
		{1, 10, span(300, 400), api.OK},
		{2, 10, span(60, 100), api.OK},
		{0, 0, span(0, 0), api.OK},
		{1, 3, span(0, 0), api.OK},
		{2, 8, span(0, 0), api.OK},
		{0, 100000, span(4000000, 5000000), api.OK},
		{1, 100000, span(3999900, 4999900), api.OK},
		{-1, -1, span(0, 0), api.ErrMissing},
		{3, 100001, span(0, 0), api.ErrMissing},
		{0, -1, span(0, 0), api.ErrLate},
		{1, 2, span(0, 0), api.ErrLate},
		{0, 100001, span(0, 0), api.ErrRange},
		{2, 100001, span(0, 0), api.ErrRange},
	} {
		if x, e := parade.Where(samba(), tight(), c.wing, c.second); x != c.want || e != c.e {
			t.Error(c, x, e)
		}
	}
}

// P1.2: Passes, and its errors in their order.
func TestPasses(t *testing.T) {
	for _, c := range []struct {
		wing, place int
		want        api.Span
		e           api.Errno
	}{
		{1, 1000, span(22, 28), api.OK},
		{2, 1100, span(30, 45), api.OK},
		{0, 0, span(0, 0), api.OK},
		{1, 0, span(3, 3), api.OK},
		{2, 0, span(8, 8), api.OK},
		{0, 200, span(4, 5), api.OK},
		{0, 201, span(5, 6), api.OK},
		{0, 100000, span(2000, 2500), api.OK},
		{-1, -1, span(0, 0), api.ErrMissing},
		{3, 100001, span(0, 0), api.ErrMissing},
		{0, -1, span(0, 0), api.ErrRange},
		{2, 100001, span(0, 0), api.ErrRange},
	} {
		if x, e := parade.Passes(samba(), tight(), c.wing, c.place); x != c.want || e != c.e {
			t.Error(c, x, e)
		}
	}
}

var wrongRules = []struct {
	r    api.Rules
	want api.Errno
}{
	{api.Rules{Least: -1, Most: 5}, api.ErrRange},
	{api.Rules{Least: 100001, Most: 100001}, api.ErrRange},
	{api.Rules{Least: 100001, Most: 5}, api.ErrRange},
	{api.Rules{Most: -1}, api.ErrRange},
	{api.Rules{Most: 100001}, api.ErrRange},
	{api.Rules{Gap: -1}, api.ErrRange},
	{api.Rules{Gap: 20001}, api.ErrRange},
	{api.Rules{Least: 9, Most: 8, Gap: -1}, api.ErrRange},
	{api.Rules{Least: 9, Most: 8}, api.ErrOrder},
}

// P1.3, P1.4 and P1.5: all functions to which rules are given find what is wrong with them.
func TestRules(t *testing.T) {
	for _, c := range wrongRules {
		v, x, lasts := parade.Lasts(samba(), tight(), c.r)
		l, opens := parade.Opens(samba(), tight(), c.r)
		starts, g, plan := parade.Plan(samba(), c.r)
		if lasts != c.want || opens != c.want || plan != c.want {
			t.Error(c, lasts, opens, plan)
		}
		if v != 0 || x != span(0, 0) || len(l) > 0 || len(starts) > 0 || g != 0 {
			t.Error(c, v, x, l, starts, g)
		}
	}
	widest := api.Rules{Least: 0, Most: 100000, Gap: 20000}
	_, _, lasts := parade.Lasts(samba(), tight(), widest)
	_, opens := parade.Opens(samba(), tight(), widest)
	_, _, plan := parade.Plan(samba(), widest)
	if lasts != api.OK || opens != api.OK || plan != api.OK {
		t.Error(lasts, opens, plan)
	}
}

// P1.3: the verdict of Lasts by the ends of what it returns.
func TestLasts(t *testing.T) {
	for _, c := range []struct {
		starts      []int
		least, most int
		verdict     int
		want        api.Span
	}{
		{tight(), 30, 60, sure, span(30, 45)},
		{tight(), 30, 40, open, span(30, 45)},
		{tight(), 30, 45, sure, span(30, 45)},
		{tight(), 30, 44, open, span(30, 45)},
		{tight(), 31, 45, open, span(30, 45)},
		{tight(), 31, 44, open, span(30, 45)},
		{tight(), 0, 29, never, span(30, 45)},
		{tight(), 0, 30, open, span(30, 45)},
		{tight(), 46, 100, never, span(30, 45)},
		{tight(), 45, 100, open, span(30, 45)},
		{[]int{7, 10, 15}, 30, 45, sure, span(30, 45)},
		{[]int{0, 3, 20000}, 20022, 20037, sure, span(20022, 20037)},
	} {
		v, x, e := parade.Lasts(samba(), c.starts, api.Rules{Least: c.least, Most: c.most})
		if v != c.verdict || x != c.want || e != api.OK {
			t.Error(c, v, x, e)
		}
	}
	if v, x, e := parade.Lasts(samba(), []int{0, 3}, rules()); v != 0 || x != span(0, 0) || e != api.ErrForm {
		t.Error(v, x, e)
	}
}

// P1.4: Gap has the errors of Where, then its own.
func TestGap(t *testing.T) {
	for _, c := range []struct {
		wing, second int
		want         api.Span
		e            api.Errno
	}{
		{1, 3, span(20, 50), api.OK},
		{1, 5, span(0, 50), api.OK},
		{2, 20, span(0, 340), api.OK},
		{2, 25, span(0, 440), api.OK},
		{2, 30, span(0, 540), api.OK},
		{1, 100000, span(0, 50), api.OK},
		{-1, -1, span(0, 0), api.ErrMissing},
		{3, 5, span(0, 0), api.ErrMissing},
		{0, -1, span(0, 0), api.ErrLate},
		{0, 100001, span(0, 0), api.ErrRange},
		{0, 5, span(0, 0), api.ErrMissing},
		{1, 2, span(0, 0), api.ErrLate},
		{1, 100001, span(0, 0), api.ErrRange},
	} {
		if x, e := parade.Gap(samba(), tight(), c.wing, c.second); x != c.want || e != c.e {
			t.Error(c, x, e)
		}
	}
}

// P1.4: the verdicts of Opens.
func TestOpens(t *testing.T) {
	for _, c := range []struct {
		starts []int
		gap    int
		want   []int
	}{
		{tight(), 150, []int{never, never, open}},
		{tight(), 15, []int{never, sure, sure}},
		{tight(), 440, []int{never, never, never}},
		{tight(), 439, []int{never, never, open}},
		{tight(), 49, []int{never, open, open}},
		{tight(), 50, []int{never, never, open}},
		{tight(), 19, []int{never, sure, sure}},
		{tight(), 20, []int{never, open, open}},
		{[]int{0, 3, 25}, 0, []int{never, sure, sure}},
		{[]int{0, 3, 26}, 0, []int{never, sure, never}},
	} {
		if l, e := parade.Opens(samba(), c.starts, api.Rules{Gap: c.gap}); e != api.OK || !slices.Equal(l, c.want) {
			t.Error(c, l, e)
		}
	}
	alone := api.School{Route: 5, Wings: named(1, 1, span(1, 9))}
	if l, e := parade.Opens(alone, []int{0}, api.Rules{}); e != api.OK || !slices.Equal(l, []int{never}) {
		t.Error(l, e)
	}
}

// P1.4: Widest returns the first wing and the first second of the widest gap.
func TestWidest(t *testing.T) {
	follow := api.School{Route: 100, Wings: named(2, 10, span(5, 5))}
	three := api.School{Route: 100, Wings: named(3, 10, span(5, 5))}
	late := api.School{Route: 100000, Wings: []api.Wing{{Name: "a", Length: 1, Pace: span(2, 3)}, {Name: "b", Length: 1, Pace: span(1, 2)}}}
	for i, c := range []struct {
		s                 api.School
		starts            []int
		wing, second, gap int
	}{
		{samba(), tight(), 2, 25, 440},
		{samba(), []int{0, 3, 26}, 1, 3, 50},
		{follow, []int{0, 2}, -1, -1, 0},
		{follow, []int{0, 3}, 1, 3, 5},
		{follow, []int{0, 21}, 1, 21, 95},
		{follow, []int{0, 22}, -1, -1, 0},
		{three, []int{0, 3, 6}, 1, 3, 5},
		{three, []int{0, 3, 7}, 2, 7, 10},
		{late, []int{19999, 20000}, 1, 53332, 66666},
		{api.School{Route: 5, Wings: named(1, 1, span(1, 9))}, []int{4}, -1, -1, 0},
	} {
		w, at, g, e := parade.Widest(c.s, c.starts)
		if w != c.wing || at != c.second || g != c.gap || e != api.OK {
			t.Error(i, w, at, g, e)
		}
	}
	if w, at, g, e := parade.Widest(samba(), []int{0, 2, 8}); w != 0 || at != 0 || g != 0 || e != api.ErrLate {
		t.Error(w, at, g, e)
	}
}

// P1.5: Plan, and its errors in their order.
func TestPlan(t *testing.T) {
	alone := api.School{Route: 100, Wings: named(1, 10, span(5, 5))}
	slow := api.School{Route: 100, Wings: named(5, 5000, span(1, 1))}
	wide := api.Rules{Least: 0, Most: 100000}
	for i, c := range []struct {
		s      api.School
		r      api.Rules
		starts []int
		gap    int
		e      api.Errno
	}{
		{samba(), rules(), tight(), 440, api.OK},
		{samba(), api.Rules{Least: 31, Most: 60, Gap: 150}, []int{0, 3, 9}, 470, api.OK},
		{samba(), api.Rules{Least: 30, Most: 44, Gap: 150}, nil, 0, api.ErrMissing},
		{samba(), api.Rules{Least: 30, Most: 45}, tight(), 440, api.OK},
		{samba(), api.Rules{Least: 36, Most: 100}, nil, 0, api.ErrMissing},
		{alone, api.Rules{Least: 22, Most: 22}, []int{0}, 0, api.OK},
		{alone, api.Rules{Least: 21, Most: 21}, nil, 0, api.ErrMissing},
		{slow, wide, []int{0, 5000, 10000, 15000, 20000}, 0, api.OK},
		{api.School{Route: 9, Wings: named(6, 5000, span(1, 1))}, api.Rules{Least: 9, Most: 8}, nil, 0, api.ErrFull},
		{api.School{Route: 9, Wings: named(5, 1, span(1, 1))}, api.Rules{Least: 9, Most: 8}, nil, 0, api.ErrOrder},
	} {
		starts, g, e := parade.Plan(c.s, c.r)
		if e != c.e || g != c.gap || !slices.Equal(starts, c.starts) {
			t.Error(i, starts, g, e)
		}
	}
	// The last wing can start at 20000, but with a wait of 3 it would start at 20001.
	slow.Wings[3].Length = 4998
	starts, _, e := parade.Plan(slow, api.Rules{Least: 25100, Most: 25100})
	if e != api.OK || starts[4] != 20000 {
		t.Error(starts, e)
	}
	if starts, _, e := parade.Plan(slow, api.Rules{Least: 25101, Most: 25101}); e != api.ErrMissing {
		t.Error(starts, e)
	}
}
