package shed_test

import (
	"math"
	"slices"
	"strings"
	"testing"

	"bateria/api"
	"bateria/shed"
)

var strange = []int{math.MinInt, math.MinInt + 1, -2, -1, 0, 1, 2, 3, 4, 6, 7, 30, 31, 400, 401, math.MaxInt - 1, math.MaxInt}

// P1 and R5: any values are taken, and all functions return; R3: with an error the other results are zero values.
func TestStrangeArguments(t *testing.T) {
	for _, a := range strange {
		for _, b := range strange {
			askPlans(t, changed(func(s *api.Shop) { s.Jobs[1].Float, s.Jobs[2].Skill = a, b }), on(0, 0, 2, 3, 1, 0, 1, 4))
			askPlans(t, changed(func(s *api.Shop) { s.Jobs[1].Skill, s.Jobs[1].Days = a, b }), on(0, 0, 2, 3, 1, 0, 1, 4))
			askPlans(t, changed(func(s *api.Shop) { s.Jobs[0].Days, s.Jobs[3].Days = a, b }), on(0, 0, 2, 3, 1, 0, 1, 4))
			askPlans(t, atelier(), on(0, 0, a, b, 1, 0, 1, 4))
			askPlans(t, atelier(), on(0, a, 2, b, 1, 0, 1, 4))
			askPlans(t, crew(4, carvings(30, 30)...), on(a, b, b, a))
			frame := framed(func(f *api.Float) { f.Length, f.Rear = a, b })
			design := []api.Load{{At: a, Kilos: span(a, b), Top: span(b, a), Kind: a, Watts: b}}
			askFrames(t, yard{[]api.Float{frame, light()}, [][]api.Load{design, swan()}, river()})
			askFrames(t, yard{[]api.Float{light()}, [][]api.Load{swan()}, []api.Hurdle{{Kind: a, A: b, B: a}, {Kind: 3, A: a, B: b}}})
			for _, days := range [][3]int{{a, b, 1}, {1, a, b}, {b, 1, a}} {
				if l, e := shed.Jobs([]int{a, b}, days[0], days[1], days[2]); e != api.OK && len(l) > 0 {
					t.Error("Jobs", a, b, l, e)
				}
			}
		}
	}
	askPlans(t, api.Shop{Workers: make([]api.Worker, 100000)}, nil)
	askPlans(t, api.Shop{Workers: make([]api.Worker, 1), Jobs: make([]api.Job, 100000)}, make([]api.Shift, 100000))
	askPlans(t, atelier(), make([]api.Shift, 100000))
	askPlans(t, api.Shop{}, nil)
	askFrames(t, yard{make([]api.Float, 100000), make([][]api.Load, 100000), make([]api.Hurdle, 100000)})
	askFrames(t, yard{[]api.Float{light()}, [][]api.Load{make([]api.Load, 100000)}, nil})
	if l, e := shed.Jobs(make([]int, 100000), 1, 1, 1); len(l) > 0 || e != api.ErrFull {
		t.Error(l, e)
	}
	for _, text := range []string{"\x00", "\xff\xfe\n", strings.Repeat("\n", 1000), strings.Repeat(" ", 1000), "shop" + strings.Repeat(" ", 990) + "\n", "shop 1\nworker 1 0 \xff\njob 0 1 2\nend\n", "shop " + strings.Repeat("9", 990) + "\n"} {
		if s, _, e := shed.Read(text); e == api.OK || len(s.Workers)+len(s.Jobs) > 0 {
			t.Errorf("Read %q %v %v", text, s, e)
		}
	}
}

// askPlans asks all functions of shops, and looks for results beside an error.
func askPlans(t *testing.T, s api.Shop, plan []api.Shift) {
	t.Helper()
	if days, e := shed.Takes(s, plan); e != api.OK && days != 0 {
		t.Error("Takes", s, plan, days, e)
	}
	if days, e := shed.Bound(s); e != api.OK && days != 0 {
		t.Error("Bound", s, days, e)
	}
	if plan, days, e := shed.Best(s); e != api.OK && (len(plan) > 0 || days != 0) {
		t.Error("Best", s, plan, days, e)
	}
	if text, e := shed.Write(s); e != shed.Check(s) || (e == api.OK) == (text == "") {
		t.Error("Write", s, text, e)
	}
}

// askFrames asks all functions of frames, and looks for results beside an error.
func askFrames(t *testing.T, y yard) {
	t.Helper()
	table, e := shed.Fits(y.frames, y.designs, y.route)
	if e != api.OK && len(table) > 0 || e == api.OK && len(table) != len(y.frames) {
		t.Error("Fits", y, table, e)
	}
	l, e2 := shed.Match(y.frames, y.designs, y.route)
	if e != e2 || e != api.OK && len(l) > 0 || e == api.OK && len(l) != len(y.designs) {
		t.Error("Match", y, l, e2)
	}
}

// roomy is a list with room behind its end, which belongs to the caller; strangers stand there.
func roomy[T any](list []T, stranger T) []T {
	return append(slices.Clone(list), stranger, stranger, stranger)[:len(list)]
}

// isRoomy says whether nothing was written behind the end of a list.
func isRoomy[T comparable](list []T, stranger T) bool {
	return slices.Equal(list[:len(list)+3][len(list):], []T{stranger, stranger, stranger})
}

// overwrite writes into a list, and behind its end.
func overwrite[T any](list []T, thing T) {
	_ = append(list, thing, thing, thing)
	for i := range list {
		list[i] = thing
	}
}

// R4: arguments are not changed, not even behind their ends, and results are new memory: shops.
func TestMemory(t *testing.T) {
	stranger := api.Job{Float: 77}
	s := atelier()
	s.Workers, s.Jobs = roomy(s.Workers, all), roomy(s.Jobs, stranger)
	plan := roomy(on(0, 0, 2, 3, 1, 0, 1, 4), api.Shift{Worker: 77})
	gives := roomy([]int{1, -1}, 77)
	for range 2 { // a second time, after the results of the first one were changed
		askPlans(t, s, plan)
		best, days, _ := shed.Best(s)
		jobs, _ := shed.Jobs(gives, 3, 2, 1)
		read, _, _ := shed.Read(board)
		text, _ := shed.Write(s)
		if !slices.Equal(best, on(0, 0, 2, 3, 1, 0, 1, 4)) || days != 6 || text != board || !sameShop(read, atelier()) {
			t.Error(best, days, text, read)
		}
		if !slices.Equal(jobs, []api.Job{job(0, 2, 2), job(0, 3, 1), job(1, 1, 3), job(1, 2, 2), job(1, 3, 1)}) {
			t.Error(jobs)
		}
		overwrite(best, api.Shift{Worker: 9, Day: 9})
		overwrite(jobs, stranger)
		overwrite(read.Workers, api.Worker{})
		if !slices.Equal(read.Jobs, atelier().Jobs) {
			t.Error(read)
		}
		overwrite(read.Jobs, stranger)
	}
	if !sameShop(s, atelier()) || !slices.Equal(plan, on(0, 0, 2, 3, 1, 0, 1, 4)) || !slices.Equal(gives, []int{1, -1}) {
		t.Error(s, plan, gives)
	}
	if !isRoomy(s.Workers, all) || !isRoomy(s.Jobs, stranger) || !isRoomy(plan, api.Shift{Worker: 77}) || !isRoomy(gives, 77) {
		t.Error(s, plan, gives)
	}
}

// R4: the same of frames and designs; the rows of a table share no memory with each other.
func TestMemoryOfFrames(t *testing.T) {
	stranger := api.Load{At: 77}
	y := yard{[]api.Float{light(), heavy()}, [][]api.Load{roomy(swan(), stranger), roomy(whale(), stranger)}, roomy(river(), wire(77))}
	y.frames[0].Loads = roomy(whale(), stranger)
	for range 2 {
		table := fits(t, y)
		gives := match(t, y)
		if !sameTable(table, [][]bool{{true, true}, {true, false}}) || !slices.Equal(gives, []int{1, 0}) {
			t.Error(table, gives)
		}
		overwrite(table[0], false)
		if !slices.Equal(table[1], []bool{true, false}) {
			t.Error(table)
		}
		overwrite(table[1], true)
		overwrite(gives, 9)
	}
	for _, list := range [][]api.Load{y.designs[0], y.designs[1], y.frames[0].Loads} {
		if !isRoomy(list, stranger) {
			t.Error(list)
		}
	}
	if !slices.Equal(y.designs[0], swan()) || !slices.Equal(y.designs[1], whale()) || !slices.Equal(y.frames[0].Loads, whale()) || len(y.frames[1].Loads) > 0 {
		t.Error(y)
	}
	if !slices.Equal(y.route, river()) || !isRoomy(y.route, wire(77)) {
		t.Error(y.route)
	}
}

// R4: a nil slice and an empty one are equal.
func TestEmpty(t *testing.T) {
	for _, y := range []yard{{}, {[]api.Float{}, [][]api.Load{}, []api.Hurdle{}}} {
		if table, l := fits(t, y), match(t, y); len(table)+len(l) > 0 {
			t.Error(table, l)
		}
		y.frames = []api.Float{light()}
		if table := fits(t, y); !sameTable(table, [][]bool{{}}) {
			t.Error(table)
		}
	}
	for _, design := range [][]api.Load{nil, {}} {
		if l := match(t, yard{[]api.Float{light()}, [][]api.Load{design}, nil}); !slices.Equal(l, []int{0}) {
			t.Error(l)
		}
	}
	for _, s := range []api.Shop{{Workers: []api.Worker{all}}, {Workers: []api.Worker{all}, Jobs: []api.Job{}}} {
		for _, plan := range [][]api.Shift{nil, {}} {
			if days, e := shed.Takes(s, plan); days != 0 || e != api.OK {
				t.Error(days, e)
			}
		}
		plan, days := best(t, s)
		if text, e := shed.Write(s); len(plan) > 0 || days != 0 || bound(t, s) != 0 || text != "shop 0\nworker 1 1 1\nend\n" || e != api.OK {
			t.Error(plan, days, text, e)
		}
	}
	for _, workers := range [][]api.Worker{nil, {}} {
		if e := shed.Check(api.Shop{Workers: workers}); e != api.ErrShort {
			t.Error(e)
		}
	}
	for _, gives := range [][]int{nil, {}} {
		if l, e := shed.Jobs(gives, 1, 1, 1); len(l) > 0 || e != api.OK {
			t.Error(l, e)
		}
	}
}

// R7: the greatest numbers are exact.
func TestGreatest(t *testing.T) {
	long := slices.Repeat([]api.Job{job(6, 2, 30)}, 7)
	for _, s := range []api.Shop{crew(4, long...), crew(1, long...), crew(1, carvings(30, 30, 30, 30, 30, 30, 30)...)} {
		plan, days := best(t, s)
		if !slices.Equal(plan, on(0, 0, 0, 30, 0, 60, 0, 90, 0, 120, 0, 150, 0, 180)) || days != 210 || bound(t, s) != 210 {
			t.Error(s, plan, days, bound(t, s))
		}
	}
	// the axle carries just as much as the bridge
	truck := api.Float{Length: 3000, Width: 1, Front: 0, Rear: 3000, Kilos: 100000, Middle: 3000}
	freight := slices.Repeat([]api.Load{{At: 3000, Kilos: one(100000), Kind: api.LoadPlain}}, 20)
	for axle, want := range map[int]bool{2100000: true, 2099999: false} {
		if table := fits(t, yard{[]api.Float{truck}, [][]api.Load{freight}, []api.Hurdle{bridge(2100000, axle)}}); table[0][0] != want {
			t.Error(axle, table)
		}
	}
}
