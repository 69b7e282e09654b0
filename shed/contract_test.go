package shed_test

import (
	"slices"
	"testing"

	"bateria/api"
	"bateria/shed"
)

var pairs = []struct {
	about  string
	frame  api.Float
	design []api.Load
	route  []api.Hurdle
	want   bool
}{
	{"F and A", light(), swan(), river(), true},
	{"F and B", light(), whale(), river(), true},
	{"G and A", heavy(), swan(), river(), true},
	{"G and B", heavy(), whale(), river(), false},
	{"no design", light(), nil, river(), true},
	{"no route", heavy(), whale(), nil, true},
	// the float is valid
	{"a frame that is nothing", api.Float{}, nil, nil, false},
	{"a frame that is not valid", framed(func(f *api.Float) { f.Rear = 20 }), nil, nil, false},
	{"a load before the front axle", light(), []api.Load{{At: 19, Kind: api.LoadPlain}}, nil, false},
	{"a load on the front axle", light(), []api.Load{{At: 20, Kind: api.LoadPlain}}, nil, true},
	{"a load behind the rear axle", light(), []api.Load{{At: 81, Kind: api.LoadPlain}}, nil, false},
	{"a load of no kind", light(), []api.Load{{At: 50}}, nil, false},
	{"a span the wrong way", light(), []api.Load{{At: 50, Kilos: span(2, 1), Kind: api.LoadPlain}}, nil, false},
	{"as many loads as may be", light(), slices.Repeat(swan(), 20), nil, true},
	{"too many loads", light(), slices.Repeat(swan(), 21), nil, false},
	// the loads of the frame
	{"loads of the frame that are not valid", framed(func(f *api.Float) { f.Loads = make([]api.Load, 21) }), swan(), river(), true},
	{"loads of the frame that are too heavy", framed(func(f *api.Float) { f.Loads = slices.Repeat(whale(), 3) }), swan(), river(), true},
	{"loads of the frame by which it would stand", framed(func(f *api.Float) { f.Middle, f.Loads = 90, slices.Repeat(whale(), 3) }), nil, nil, false},
	// it surely stands
	{"it never stands", framed(func(f *api.Float) { f.Middle = 90 }), nil, nil, false},
	{"it stands on one axle", framed(func(f *api.Float) { f.Middle = 80 }), nil, nil, true},
	{"it may stand", framed(func(f *api.Float) { f.Middle = 90 }), []api.Load{{At: 20, Kilos: span(16, 17), Kind: api.LoadPlain}}, nil, false},
	{"it surely stands by its load", framed(func(f *api.Float) { f.Middle = 90 }), []api.Load{{At: 20, Kilos: span(17, 18), Kind: api.LoadPlain}}, nil, true},
	// it surely passes
	{"a wire as high as its load", light(), swan(), []api.Hurdle{wire(60)}, true},
	{"a wire that it may pass", light(), swan(), []api.Hurdle{wire(59)}, false},
	{"a wire that it never passes", light(), swan(), []api.Hurdle{wire(49)}, false},
	{"a bridge that it may pass", light(), swan(), []api.Hurdle{bridge(119, 400)}, false},
	{"a bridge as strong as need be", light(), swan(), []api.Hurdle{bridge(120, 400)}, true},
	{"a bridge too weak for an axle", light(), swan(), []api.Hurdle{bridge(120, 66)}, false},
	{"a bend", light(), swan(), []api.Hurdle{bend(35, 104)}, true},
	{"a bend that is too narrow", light(), swan(), []api.Hurdle{bend(35, 103)}, false},
	{"the last hurdle", light(), swan(), []api.Hurdle{wire(60), bridge(120, 400), wire(59)}, false},
	{"the first hurdle", light(), swan(), []api.Hurdle{wire(59), bridge(120, 400), wire(60)}, false},
}

// P8.1: Fits, for one frame and one design; Match gives the design the frame if it fits.
func TestFitsOne(t *testing.T) {
	for _, x := range pairs {
		frames, designs := []api.Float{x.frame}, [][]api.Load{x.design}
		if l, e := shed.Fits(frames, designs, x.route); !sameTable(l, [][]bool{{x.want}}) || e != api.OK {
			t.Error(x.about, l, e)
		}
		want := -1
		if x.want {
			want = 0
		}
		if l, e := shed.Match(frames, designs, x.route); !slices.Equal(l, []int{want}) || e != api.OK {
			t.Error(x.about, l, e)
		}
		if len(x.design) > 1 { // the model looks at too many truths
			continue
		}
		if is := fitsOf(x.frame, x.design, x.route); is != x.want {
			t.Error("the model:", x.about, is)
		}
	}
}

// P8.1: Fits and Match.
func TestFits(t *testing.T) {
	a, b, f, g := swan(), whale(), light(), heavy()
	crane := framed(func(f *api.Float) { f.High = 70 })
	flag := []api.Load{{At: 50, Top: one(70), Kind: api.LoadPlain}}
	low := []api.Hurdle{bridge(450, 400), wire(60)}
	for _, x := range []struct {
		about   string
		frames  []api.Float
		designs [][]api.Load
		route   []api.Hurdle
		want    [][]bool
		match   []int
		e       api.Errno
	}{
		{"the first example", []api.Float{f, g}, [][]api.Load{a, b}, river(), [][]bool{{true, true}, {true, false}}, []int{1, 0}, api.OK},
		{"the second example", []api.Float{g}, [][]api.Load{a, b}, river(), [][]bool{{true, false}}, []int{0, -1}, api.OK},
		{"the third example", []api.Float{f}, [][]api.Load{b, a}, river(), [][]bool{{true, true}}, []int{0, -1}, api.OK},
		{"the other frame first", []api.Float{g, f}, [][]api.Load{a, b}, river(), [][]bool{{true, false}, {true, true}}, []int{0, 1}, api.OK},
		{"the other design first", []api.Float{f, g}, [][]api.Load{b, a}, river(), [][]bool{{true, true}, {false, true}}, []int{0, 1}, api.OK},
		{"the first of many frames", []api.Float{g, f, f, g}, [][]api.Load{b, a}, river(), [][]bool{{false, true}, {true, true}, {true, true}, {false, true}}, []int{1, 0}, api.OK},
		{"the first of many designs", []api.Float{f}, [][]api.Load{flag, a, b, a}, low, [][]bool{{false, true, true, true}}, []int{-1, 0, -1, -1}, api.OK},
		{"a frame that fits nothing", []api.Float{crane, f}, [][]api.Load{flag, a}, low, [][]bool{{false, false}, {false, true}}, []int{-1, 1}, api.OK},
		{"the first design goes without a frame before the others do", []api.Float{g, g}, [][]api.Load{b, a, a}, river(), [][]bool{{false, true, true}, {false, true, true}}, []int{-1, 0, 1}, api.OK},
		{"no frames", nil, [][]api.Load{a, b}, river(), nil, []int{-1, -1}, api.OK},
		{"no designs", []api.Float{f, g}, nil, river(), [][]bool{nil, nil}, nil, api.OK},
		{"nothing", nil, nil, nil, nil, nil, api.OK},
		{"as many as may be", slices.Repeat([]api.Float{f}, 6), slices.Repeat([][]api.Load{a}, 6), river(), slices.Repeat([][]bool{slices.Repeat([]bool{true}, 6)}, 6), []int{0, 1, 2, 3, 4, 5}, api.OK},
		{"too many frames", make([]api.Float, 7), nil, nil, nil, nil, api.ErrFull},
		{"too many designs", nil, make([][]api.Load, 7), nil, nil, nil, api.ErrFull},
		{"too many frames before the route", make([]api.Float, 7), nil, []api.Hurdle{{}}, nil, nil, api.ErrFull},
		{"too many designs before the route", nil, make([][]api.Load, 7), []api.Hurdle{bend(5, 5)}, nil, nil, api.ErrFull},
		{"a hurdle of no kind", nil, nil, []api.Hurdle{{}}, nil, nil, api.ErrKind},
		{"a bend without room", []api.Float{f}, [][]api.Load{a}, []api.Hurdle{bend(5, 5)}, nil, nil, api.ErrOrder},
		{"a wire with B", nil, nil, []api.Hurdle{{Kind: api.HurdleWire, B: 1}}, nil, nil, api.ErrForm},
		{"a wire that is too high", nil, nil, []api.Hurdle{wire(2001)}, nil, nil, api.ErrRange},
		{"too many hurdles", nil, nil, make([]api.Hurdle, 41), nil, nil, api.ErrFull},
		{"a route before frames that are not valid", []api.Float{{}}, [][]api.Load{nil}, []api.Hurdle{{}}, nil, nil, api.ErrKind},
	} {
		if l, e := shed.Fits(x.frames, x.designs, x.route); !sameTable(l, x.want) || e != x.e {
			t.Error(x.about, l, e)
		}
		if l, e := shed.Match(x.frames, x.designs, x.route); !slices.Equal(l, x.match) || e != x.e {
			t.Error(x.about, l, e)
		}
	}
}

// P8.2: Jobs.
func TestJobs(t *testing.T) {
	const weld, carve, paint = api.SkillWeld, api.SkillCarve, api.SkillPaint
	for _, x := range []struct {
		about string
		match []int
		days  [3]int
		want  []api.Job
		e     api.Errno
	}{
		{"the first example", []int{1, -1}, [3]int{3, 2, 1}, []api.Job{job(0, carve, 2), job(0, paint, 1), job(1, weld, 3), job(1, carve, 2), job(1, paint, 1)}, api.OK},
		{"the second example", []int{-1, -1, -1}, [3]int{1, 1, 1}, nil, api.ErrOver},
		{"no designs", nil, [3]int{1, 1, 1}, nil, api.OK},
		{"no welding", []int{-1, 0}, [3]int{0, 2, 1}, []api.Job{job(0, carve, 2), job(0, paint, 1), job(1, carve, 2), job(1, paint, 1)}, api.OK},
		{"no carving", []int{-1, 0}, [3]int{3, 0, 1}, []api.Job{job(0, weld, 3), job(0, paint, 1), job(1, paint, 1)}, api.OK},
		{"no painting", []int{-1, 0}, [3]int{3, 2, 0}, []api.Job{job(0, weld, 3), job(0, carve, 2), job(1, carve, 2)}, api.OK},
		{"only welding", []int{0, -1, 5, -1}, [3]int{30, 0, 0}, []api.Job{job(1, weld, 30), job(3, weld, 30)}, api.OK},
		{"nothing to do", []int{-1, 0, -1, -1, -1, -1}, [3]int{}, nil, api.OK},
		{"as many jobs as may be", []int{0, 1, -1}, [3]int{30, 30, 30}, []api.Job{job(0, carve, 30), job(0, paint, 30), job(1, carve, 30), job(1, paint, 30), job(2, weld, 30), job(2, carve, 30), job(2, paint, 30)}, api.OK},
		{"a job too many", []int{0, -1, -1}, [3]int{1, 1, 1}, nil, api.ErrOver},
		{"a job too many, without welding", []int{0, 0, 0, 0}, [3]int{0, 1, 1}, nil, api.ErrOver},
		{"as many designs as may be", []int{0, 0, 0, 0, 0, 0}, [3]int{0, 1, 0}, []api.Job{job(0, carve, 1), job(1, carve, 1), job(2, carve, 1), job(3, carve, 1), job(4, carve, 1), job(5, carve, 1)}, api.OK},
		{"one frame for all", []int{2, 2}, [3]int{1, 1, 0}, []api.Job{job(0, carve, 1), job(1, carve, 1)}, api.OK},
		{"a frame that cannot be", []int{1000000}, [3]int{1, 0, 1}, []api.Job{job(0, paint, 1)}, api.OK},
		{"too many designs", make([]int, 7), [3]int{}, nil, api.ErrFull},
		{"too many designs before their frames", slices.Repeat([]int{-2}, 7), [3]int{}, nil, api.ErrFull},
		{"too many designs before days", make([]int, 7), [3]int{31, 0, 0}, nil, api.ErrFull},
		{"a frame below none", []int{-2}, [3]int{}, nil, api.ErrRange},
		{"the last frame below none", []int{0, -1, -2}, [3]int{}, nil, api.ErrRange},
		{"a frame below none before too many jobs", []int{-1, -1, -1, -2}, [3]int{1, 1, 1}, nil, api.ErrRange},
		{"days before too many jobs", []int{-1, -1, -1}, [3]int{1, 1, 31}, nil, api.ErrRange},
		{"welding below 0", nil, [3]int{-1, 0, 0}, nil, api.ErrRange},
		{"carving below 0", nil, [3]int{0, -1, 0}, nil, api.ErrRange},
		{"painting below 0", nil, [3]int{0, 0, -1}, nil, api.ErrRange},
		{"too long a welding", []int{0}, [3]int{31, 0, 0}, nil, api.ErrRange},
		{"too long a carving", nil, [3]int{0, 31, 0}, nil, api.ErrRange},
		{"too long a painting", nil, [3]int{0, 0, 31}, nil, api.ErrRange},
	} {
		if l, e := shed.Jobs(x.match, x.days[0], x.days[1], x.days[2]); !slices.Equal(l, x.want) || e != x.e {
			t.Error(x.about, l, e)
		}
	}
}

var ateliers = []struct {
	about  string
	change func(s *api.Shop)
	want   api.Errno
	bound  int
	e      api.Errno
}{
	{"the example", func(s *api.Shop) {}, api.OK, 6, api.OK},
	{"nothing", func(s *api.Shop) { *s = api.Shop{} }, api.ErrShort, 0, api.ErrShort},
	// workers
	{"no workers", func(s *api.Shop) { s.Workers = nil }, api.ErrShort, 0, api.ErrShort},
	{"no workers before too many jobs", func(s *api.Shop) { s.Workers, s.Jobs = nil, make([]api.Job, 8) }, api.ErrShort, 0, api.ErrShort},
	{"one worker", func(s *api.Shop) { s.Workers = []api.Worker{all} }, api.OK, 11, api.OK},
	{"as many workers as may be", func(s *api.Shop) { s.Workers = append(s.Workers, api.Worker{}) }, api.OK, 6, api.OK},
	{"too many workers", func(s *api.Shop) { s.Workers = make([]api.Worker, 5) }, api.ErrFull, 0, api.ErrFull},
	{"too many workers before jobs", func(s *api.Shop) { s.Workers, s.Jobs = make([]api.Worker, 5), make([]api.Job, 1) }, api.ErrFull, 0, api.ErrFull},
	// jobs
	{"no jobs", func(s *api.Shop) { s.Jobs = nil }, api.OK, 0, api.OK},
	{"no jobs, and nobody can do any", func(s *api.Shop) { s.Jobs, s.Workers = nil, make([]api.Worker, 1) }, api.OK, 0, api.OK},
	{"as many jobs as may be", func(s *api.Shop) { s.Jobs = slices.Repeat(s.Jobs[:1], 7) }, api.OK, 21, api.OK},
	{"too many jobs", func(s *api.Shop) { s.Jobs = slices.Repeat(s.Jobs[:1], 8) }, api.ErrFull, 0, api.ErrFull},
	{"too many jobs before what they are", func(s *api.Shop) { s.Jobs = slices.Repeat([]api.Job{job(-1, 0, 0)}, 8) }, api.ErrFull, 0, api.ErrFull},
	{"a float below 0", func(s *api.Shop) { s.Jobs[0].Float = -1 }, api.ErrRange, 0, api.ErrRange},
	{"the last float", func(s *api.Shop) { s.Jobs[0].Float = 6 }, api.OK, 6, api.OK},
	{"a float that cannot be", func(s *api.Shop) { s.Jobs[0].Float = 7 }, api.ErrRange, 0, api.ErrRange},
	{"a float before a skill", func(s *api.Shop) { s.Jobs[0] = job(7, 4, 1) }, api.ErrRange, 0, api.ErrRange},
	{"no skill", func(s *api.Shop) { s.Jobs[0].Skill = 0 }, api.ErrKind, 0, api.ErrKind},
	{"a skill below 0", func(s *api.Shop) { s.Jobs[0].Skill = -1 }, api.ErrKind, 0, api.ErrKind},
	{"a skill that is not", func(s *api.Shop) { s.Jobs[0].Skill = 4 }, api.ErrKind, 0, api.ErrKind},
	{"a skill before days", func(s *api.Shop) { s.Jobs[0] = job(0, 4, 0) }, api.ErrKind, 0, api.ErrKind},
	{"no days", func(s *api.Shop) { s.Jobs[0].Days = 0 }, api.ErrRange, 0, api.ErrRange},
	{"days below 0", func(s *api.Shop) { s.Jobs[0].Days = -1 }, api.ErrRange, 0, api.ErrRange},
	{"one day", func(s *api.Shop) { s.Jobs[2].Days = 1 }, api.OK, 5, api.OK},
	{"as many days as may be", func(s *api.Shop) { s.Jobs[0].Days = 30 }, api.OK, 32, api.OK},
	{"too many days", func(s *api.Shop) { s.Jobs[0].Days = 31 }, api.ErrRange, 0, api.ErrRange},
	{"one job before the next one", func(s *api.Shop) { s.Jobs[0].Days, s.Jobs[1].Skill = 0, 0 }, api.ErrRange, 0, api.ErrRange},
	{"one job before the next one, the other way", func(s *api.Shop) { s.Jobs[0].Skill, s.Jobs[1].Days = 0, 0 }, api.ErrKind, 0, api.ErrKind},
	{"the last job", func(s *api.Shop) { s.Jobs[3].Skill = 4 }, api.ErrKind, 0, api.ErrKind},
	// skills that nobody has
	{"nobody welds", func(s *api.Shop) { s.Workers = s.Workers[1:] }, api.OK, 0, api.ErrMissing},
	{"nobody carves", func(s *api.Shop) { s.Workers[1].Carve = false }, api.OK, 0, api.ErrMissing},
	{"nobody paints", func(s *api.Shop) { s.Workers[1].Paint, s.Workers[2].Paint = false, false }, api.OK, 0, api.ErrMissing},
	{"nobody paints, and nobody has to", func(s *api.Shop) {
		s.Workers[1].Paint, s.Workers[2].Paint = false, false
		s.Jobs = []api.Job{s.Jobs[0], s.Jobs[2]}
	}, api.OK, 4, api.OK},
	{"a job that is not valid before skills that nobody has", func(s *api.Shop) { s.Workers, s.Jobs[3].Days = s.Workers[1:], 31 }, api.ErrRange, 0, api.ErrRange},
	// the bound
	{"the second example", func(s *api.Shop) { s.Workers = s.Workers[:2] }, api.OK, 8, api.OK},
	{"the longest float", func(s *api.Shop) { s.Jobs[0].Days = 5 }, api.OK, 7, api.OK},
	{"the longest float, in parts", func(s *api.Shop) { *s = crew(4, job(1, 1, 5), job(0, 1, 6), job(1, 2, 1), job(0, 2, 1), job(1, 3, 5)) }, api.OK, 11, api.OK},
	{"the last float is the longest one", func(s *api.Shop) { *s = crew(4, job(6, 1, 5), job(0, 1, 6), job(6, 2, 2)) }, api.OK, 7, api.OK},
	{"one skill", func(s *api.Shop) { s.Jobs = []api.Job{job(0, 3, 7), job(1, 3, 7), job(2, 3, 1)} }, api.OK, 8, api.OK},
	{"one skill, without a rest", func(s *api.Shop) { s.Jobs = []api.Job{job(0, 3, 7), job(1, 3, 7), job(2, 3, 2)} }, api.OK, 8, api.OK},
	{"one skill, with a rest of one", func(s *api.Shop) { s.Jobs = []api.Job{job(0, 3, 7), job(1, 3, 7), job(2, 3, 3)} }, api.OK, 9, api.OK},
	{"welding and carving", func(s *api.Shop) {
		s.Workers = []api.Worker{{Weld: true, Carve: true}, {Paint: true}, {Paint: true}}
		s.Jobs = []api.Job{job(0, 1, 5), job(1, 2, 4), job(2, 3, 8)}
	}, api.OK, 9, api.OK},
	{"welding and painting", func(s *api.Shop) {
		s.Workers = []api.Worker{{Weld: true, Paint: true}, {Carve: true}, {Carve: true}}
		s.Jobs = []api.Job{job(0, 1, 5), job(1, 2, 8), job(2, 3, 4)}
	}, api.OK, 9, api.OK},
	{"carving and painting", func(s *api.Shop) {
		s.Workers = []api.Worker{{Carve: true, Paint: true}, {Weld: true}, {Weld: true}}
		s.Jobs = []api.Job{job(0, 1, 8), job(1, 2, 5), job(2, 3, 4)}
	}, api.OK, 9, api.OK},
	{"all skills", func(s *api.Shop) { *s = crew(2, job(0, 1, 3), job(1, 2, 4), job(2, 3, 4)) }, api.OK, 6, api.OK},
	{"a worker who can do nothing", func(s *api.Shop) {
		*s = crew(2, job(0, 1, 3), job(1, 2, 4), job(2, 3, 4))
		s.Workers[1] = api.Worker{}
	}, api.OK, 11, api.OK},
}

// P8.3 and what the other contracts say of errors: Check, Bound, and the errors that the other functions return first; R3: the other results are zero values then.
func TestCheck(t *testing.T) {
	for _, x := range ateliers {
		s := changed(x.change)
		bound, e := shed.Bound(s)
		if check := shed.Check(s); check != x.want || bound != x.bound || e != x.e {
			t.Error(x.about, check, bound, e)
		}
		if x.e == api.OK && boundOf(s) != x.bound {
			t.Error("the model:", x.about, boundOf(s))
		}
		plan, days, best := shed.Best(s)
		if best != x.e || best != api.OK && (len(plan) > 0 || days != 0) || best == api.OK && days < bound {
			t.Error(x.about, plan, days, best)
		}
		text, write := shed.Write(s)
		if write != x.want || (text == "") != (write != api.OK) {
			t.Error(x.about, text, write)
		}
		want := x.want
		if want == api.OK {
			want = api.ErrForm
		}
		if days, e := shed.Takes(s, make([]api.Shift, 9)); days != 0 || e != want {
			t.Error(x.about, days, e)
		}
	}
}

// P8.3: Takes.
func TestTakes(t *testing.T) {
	order, clash := api.ErrOrder, api.ErrClash
	three := crew(2, job(4, 1, 2), job(4, 2, 3), job(4, 3, 1))
	mixed := crew(2, job(0, 1, 2), job(1, 1, 5), job(0, 2, 1))
	for _, x := range []struct {
		about string
		s     api.Shop
		plan  []api.Shift
		want  int
		e     api.Errno
	}{
		{"the first example", atelier(), on(0, 0, 2, 3, 1, 0, 1, 4), 6, api.OK},
		{"the second example", atelier(), on(0, 0, 2, 2, 1, 0, 1, 4), 0, order},
		{"the third example", atelier(), on(0, 0, 1, 3, 1, 0, 1, 4), 0, clash},
		{"no jobs", crew(1), nil, 0, api.OK},
		{"no shifts", atelier(), nil, 0, api.ErrForm},
		{"a shift less", atelier(), on(0, 0, 2, 3, 1, 0), 0, api.ErrForm},
		{"a shift more", atelier(), on(0, 0, 2, 3, 1, 0, 1, 4, 1, 6), 0, api.ErrForm},
		{"a shift, and no jobs", crew(1), on(0, 0), 0, api.ErrForm},
		{"a shift less before what the others are", atelier(), on(-1, 0, 2, 3, 1, 0), 0, api.ErrForm},
		// workers
		{"a worker below 0", atelier(), on(-1, 0, 2, 3, 1, 0, 1, 4), 0, api.ErrMissing},
		{"a worker who is not", atelier(), on(3, 0, 2, 3, 1, 0, 1, 4), 0, api.ErrMissing},
		{"the last job has a worker who is not", atelier(), on(0, 0, 2, 3, 1, 0, 3, 4), 0, api.ErrMissing},
		{"a worker before a day", atelier(), on(3, -1, 2, 3, 1, 0, 1, 4), 0, api.ErrMissing},
		{"a worker who cannot weld", atelier(), on(1, 0, 2, 3, 1, 0, 1, 4), 0, api.ErrKind},
		{"a worker who cannot carve", atelier(), on(0, 0, 2, 3, 2, 0, 1, 4), 0, api.ErrKind},
		{"a worker who cannot paint", atelier(), on(0, 0, 0, 3, 1, 0, 1, 4), 0, api.ErrKind},
		{"a skill before a day", atelier(), on(1, -1, 2, 3, 1, 0, 1, 4), 0, api.ErrKind},
		{"a skill before the order", atelier(), on(0, 0, 0, 2, 1, 0, 1, 4), 0, api.ErrKind},
		// days
		{"a day below 0", atelier(), on(0, -1, 2, 3, 1, 0, 1, 4), 0, api.ErrRange},
		{"the last day", atelier(), on(0, 0, 2, 400, 1, 0, 1, 4), 402, api.OK},
		{"a day too late", atelier(), on(0, 0, 2, 401, 1, 0, 1, 4), 0, api.ErrRange},
		{"the longest job on the last day", crew(1, carvings(30)...), on(0, 400), 430, api.OK},
		{"a day before the order", atelier(), on(0, 0, 2, -1, 1, 0, 1, 4), 0, api.ErrRange},
		// the order
		{"the order of the other float", atelier(), on(0, 0, 2, 3, 1, 0, 2, 3), 0, order},
		{"in one order", three, on(0, 0, 1, 2, 0, 5), 6, api.OK},
		{"the second one begins too early", three, on(0, 0, 1, 1, 0, 5), 0, order},
		{"the third one begins too early", three, on(0, 0, 1, 2, 0, 4), 0, order},
		{"the last one is the first one", three, on(0, 1, 1, 3, 0, 0), 0, order},
		{"with rests", three, on(0, 5, 1, 20, 0, 100), 101, api.OK},
		{"a job of another float stands between", mixed, on(0, 0, 1, 0, 0, 2), 5, api.OK},
		{"a job of another float stands between, and it begins too early", mixed, on(0, 2, 1, 0, 1, 3), 0, order},
		{"a float has to wait", mixed, on(0, 0, 1, 0, 1, 5), 6, api.OK},
		{"one job before the next one", atelier(), on(0, 0, 2, 2, 3, 0, 1, 4), 0, order},
		{"one job before the next one, the other way", atelier(), on(3, 0, 2, -1, 1, 0, 1, 4), 0, api.ErrMissing},
		// one worker on one day
		{"one after the other", atelier(), on(0, 0, 1, 4, 1, 0, 1, 6), 8, api.OK},
		{"a day too early", atelier(), on(0, 0, 1, 5, 1, 0, 1, 6), 0, clash},
		{"a day too early, the other way round", atelier(), on(0, 0, 1, 6, 1, 0, 1, 5), 0, clash},
		{"one within the other", crew(2, carvings(9, 2)...), on(1, 0, 1, 4), 0, clash},
		{"one within the other, the other way round", crew(2, carvings(2, 9)...), on(1, 4, 1, 0), 0, clash},
		{"on one day", crew(2, carvings(1, 1)...), on(1, 7, 1, 7), 0, clash},
		{"on one day, two workers", crew(2, carvings(1, 1)...), on(1, 7, 0, 7), 8, api.OK},
		{"the first one and the last one", crew(2, carvings(3, 3, 3)...), on(0, 0, 1, 0, 0, 2), 0, clash},
		{"the last two", crew(2, carvings(3, 3, 3)...), on(0, 0, 1, 0, 1, 2), 0, clash},
		{"one worker at last", atelier(), on(0, 0, 1, 3, 1, 3, 1, 401), 0, api.ErrRange},
		{"one worker at last, after the order", crew(2, job(0, 1, 2), job(1, 1, 2), job(0, 1, 2)), on(0, 0, 0, 0, 1, 0), 0, order},
		// how long it takes
		{"the first job is the last one to end", crew(2, carvings(9, 2)...), on(1, 0, 0, 4), 9, api.OK},
		{"nobody begins at once", crew(1, carvings(2)...), on(0, 5), 7, api.OK},
	} {
		if days, e := shed.Takes(x.s, x.plan); days != x.want || e != x.e {
			t.Error(x.about, days, e)
		}
	}
}

// P8.4: Best.
func TestBest(t *testing.T) {
	half := crew(2, carvings(2, 2)...)
	half.Workers[0].Carve = false
	for _, x := range []struct {
		about string
		s     api.Shop
		want  []api.Shift
		days  int
	}{
		{"the first example", atelier(), on(0, 0, 2, 3, 1, 0, 1, 4), 6},
		{"the second example", changed(func(s *api.Shop) { s.Workers = s.Workers[:2] }), on(0, 0, 1, 4, 1, 0, 1, 6), 8},
		{"no jobs", crew(2), nil, 0},
		{"one job", crew(2, carvings(30)...), on(0, 0), 30},
		{"two jobs, one worker", crew(1, carvings(4, 2)...), on(0, 0, 0, 4), 6},
		{"two jobs, two workers", crew(2, carvings(4, 2)...), on(0, 0, 1, 0), 4},
		{"only the second worker can", half, on(1, 0, 1, 2), 4},
		{"a job waits that could be done at once", crew(2, carvings(3, 3, 2, 2, 2)...), on(0, 0, 0, 3, 1, 0, 1, 2, 1, 4), 6},
		{"the longest job comes first", crew(2, carvings(1, 1, 2)...), on(0, 0, 0, 1, 1, 0), 2},
		{"the first worker before an early one", crew(2, job(0, 2, 2), job(0, 2, 2), job(1, 2, 1)), on(0, 0, 0, 2, 1, 0), 4},
		{"in the order of a float", crew(1, job(0, 2, 2), job(1, 2, 1), job(0, 2, 3)), on(0, 0, 0, 2, 0, 3), 6},
		{"the float with more to do goes first", crew(1, job(0, 1, 1), job(1, 1, 1), job(1, 1, 1)), on(0, 0, 0, 1, 0, 2), 3},
		{"one who welds goes to the longer float first", api.Shop{Workers: []api.Worker{{Weld: true}, {Paint: true}}, Jobs: []api.Job{job(0, 1, 2), job(0, 3, 1), job(1, 1, 2), job(1, 3, 5)}}, on(0, 2, 1, 7, 0, 0, 1, 2), 8},
		{"early days of a later job give way to those of an earlier one", crew(2, carvings(2, 3, 1, 4)...), on(0, 0, 0, 2, 1, 0, 1, 1), 5},
		{"the rarer worker is spared", api.Shop{Workers: []api.Worker{all, {Carve: true}}, Jobs: []api.Job{job(0, 2, 3), job(1, 1, 3)}}, on(1, 0, 0, 0), 3},
		{"seven long jobs", crew(1, carvings(30, 30, 30, 30, 30, 30, 30)...), on(0, 0, 0, 30, 0, 60, 0, 90, 0, 120, 0, 150, 0, 180), 210},
		{"seven jobs, four workers", crew(4, carvings(7, 11, 13, 17, 19, 23, 29)...), on(0, 0, 1, 0, 2, 0, 2, 13, 1, 11, 0, 7, 3, 0), 30},
	} {
		plan, days, e := shed.Best(x.s)
		if !slices.Equal(plan, x.want) || days != x.days || e != api.OK {
			t.Error(x.about, plan, days, e)
		}
		if takes, e := shed.Takes(x.s, plan); takes != days || e != api.OK {
			t.Error(x.about, takes, e)
		}
		if x.days > 9 { // the model looks at too many plans
			continue
		}
		if plan, days := bestOf(x.s); !slices.Equal(plan, x.want) || days != x.days {
			t.Error("the model:", x.about, plan, days)
		}
	}
}
