package shed_test

// The model follows the section Terms of the chapter word by word: it goes through all truths of the loads of small floats, through all matches, and through all plans of small shops, day by day. The other tests hold the package against it.

import (
	"math/rand/v2"
	"slices"

	"bateria/api"
	"bateria/float"
)

func span(low, high int) api.Span { return api.Span{Lo: low, Hi: high} }

func one(n int) api.Span { return span(n, n) }

func bend(a, b int) api.Hurdle { return api.Hurdle{Kind: api.HurdleBend, A: a, B: b} }

func wire(a int) api.Hurdle { return api.Hurdle{Kind: api.HurdleWire, A: a} }

func bridge(a, b int) api.Hurdle { return api.Hurdle{Kind: api.HurdleBridge, A: a, B: b} }

// light and heavy are the frames F and G of the chapter's examples.
func light() api.Float {
	return api.Float{Length: 100, Width: 30, Front: 20, Rear: 80, Turn: 50, Kilos: 100, Middle: 50, High: 40}
}

func heavy() api.Float {
	return framed(func(f *api.Float) { f.Kilos = 400 })
}

// framed is the frame F after a change.
func framed(change func(f *api.Float)) api.Float {
	f := light()
	change(&f)
	return f
}

// swan and whale are the designs A and B of the chapter's examples.
func swan() []api.Load {
	return []api.Load{{At: 30, Kilos: span(10, 20), Top: span(50, 60), Kind: api.LoadPlain}}
}

func whale() []api.Load {
	return []api.Load{{At: 70, Kilos: span(200, 300), Top: one(30), Kind: api.LoadPlain}}
}

// river is the route of the chapter's examples.
func river() []api.Hurdle { return []api.Hurdle{bridge(450, 400)} }

// atelier is the shop S of the chapter's examples.
func atelier() api.Shop {
	return api.Shop{
		Workers: []api.Worker{{Weld: true}, {Carve: true, Paint: true}, {Paint: true}},
		Jobs:    []api.Job{job(0, api.SkillWeld, 3), job(0, api.SkillPaint, 2), job(1, api.SkillCarve, 4), job(1, api.SkillPaint, 2)},
	}
}

// changed is atelier after a change.
func changed(change func(s *api.Shop)) api.Shop {
	s := atelier()
	change(&s)
	return s
}

func job(float, skill, days int) api.Job { return api.Job{Float: float, Skill: skill, Days: days} }

// all is a worker who can do everything.
var all = api.Worker{Weld: true, Carve: true, Paint: true}

// crew is a shop with so many workers who can do everything.
func crew(many int, jobs ...api.Job) api.Shop {
	return api.Shop{Workers: slices.Repeat([]api.Worker{all}, many), Jobs: jobs}
}

// carvings are jobs of so many days, each for a float of its own.
func carvings(days ...int) []api.Job {
	var l []api.Job
	for float, many := range days {
		l = append(l, job(float, api.SkillCarve, many))
	}
	return l
}

// on is a plan, of pairs of a worker and a day.
func on(numbers ...int) []api.Shift {
	var plan []api.Shift
	for pair := range slices.Chunk(numbers, 2) {
		plan = append(plan, api.Shift{Worker: pair[0], Day: pair[1]})
	}
	return plan
}

// truths are all floats with a true weight and a true top of each load.
func truths(f api.Float) []api.Float {
	list := []api.Float{f}
	for i, l := range f.Loads {
		var more []api.Float
		for _, before := range list {
			for kilos := l.Kilos.Lo; kilos <= l.Kilos.Hi; kilos++ {
				for top := l.Top.Lo; top <= l.Top.Hi; top++ {
					next := before
					next.Loads = slices.Clone(before.Loads)
					next.Loads[i].Kilos, next.Loads[i].Top = one(kilos), one(top)
					more = append(more, next)
				}
			}
		}
		list = more
	}
	return list
}

// built is a float of a frame and a design.
func built(frame api.Float, design []api.Load) api.Float {
	frame.Loads = slices.Clone(design)
	return frame
}

// isTrue says whether a float with a true load stands, and passes all hurdles.
func isTrue(f api.Float, route []api.Hurdle) bool {
	stands, e := float.Stands(f)
	passes, e2 := float.Passes(f, route)
	return e == api.OK && e2 == api.OK && stands == api.Sure && !slices.ContainsFunc(passes, func(v int) bool { return v != api.Sure })
}

// fitsOf looks at all truths.
func fitsOf(frame api.Float, design []api.Load, route []api.Hurdle) bool {
	f := built(frame, design)
	if float.Check(f) != api.OK {
		return false
	}
	return !slices.ContainsFunc(truths(f), func(f api.Float) bool { return !isTrue(f, route) })
}

// matchesOf are all matches, in lexicographic order, in which no frame stands behind all frames.
func matchesOf(table [][]bool, designs int) [][]int {
	list := [][]int{nil}
	for design := range designs {
		var more [][]int
		for _, match := range list {
			for frame, row := range table {
				if row[design] && !slices.Contains(match, frame) {
					more = append(more, append(slices.Clone(match), frame))
				}
			}
			more = append(more, append(slices.Clone(match), -1))
		}
		list = more
	}
	return list
}

// without is how many designs of a match have no frame.
func without(match []int) int {
	many := 0
	for _, frame := range match {
		if frame == -1 {
			many++
		}
	}
	return many
}

// matchOf is the first one of the matches in which the fewest designs have no frame.
func matchOf(table [][]bool, designs int) []int {
	list := matchesOf(table, designs)
	slices.SortStableFunc(list, func(a, b []int) int { return without(a) - without(b) })
	return list[0]
}

// has says whether a worker has a skill.
func has(w api.Worker, skill int) bool {
	return skill == api.SkillWeld && w.Weld || skill == api.SkillCarve && w.Carve || skill == api.SkillPaint && w.Paint
}

// isStaffed says whether each job has a worker who has its skill.
func isStaffed(s api.Shop) bool {
	for _, j := range s.Jobs {
		if !slices.ContainsFunc(s.Workers, func(w api.Worker) bool { return has(w, j.Skill) }) {
			return false
		}
	}
	return true
}

// daysOf are the days of all jobs, together.
func daysOf(s api.Shop) int {
	sum := 0
	for _, j := range s.Jobs {
		sum += j.Days
	}
	return sum
}

// only is a shop with some of its jobs.
func only(s api.Shop, is func(j api.Job) bool) api.Shop {
	s.Jobs = slices.DeleteFunc(slices.Clone(s.Jobs), func(j api.Job) bool { return !is(j) })
	return s
}

// boundOf is the greatest one of the days of each float, and of those of each set of skills.
func boundOf(s api.Shop) int {
	bound := 0
	for number := range 7 {
		bound = max(bound, daysOf(only(s, func(j api.Job) bool { return j.Float == number })))
	}
	for _, set := range [][]int{{1}, {2}, {3}, {1, 2}, {1, 3}, {2, 3}, {1, 2, 3}} {
		work := daysOf(only(s, func(j api.Job) bool { return slices.Contains(set, j.Skill) }))
		many := 0
		for _, w := range s.Workers {
			if slices.ContainsFunc(set, func(skill int) bool { return has(w, skill) }) {
				many++
			}
		}
		days := 0
		for days*many < work {
			days++
		}
		bound = max(bound, days)
	}
	return bound
}

// calendar is a bit for each day on which a job is done.
type calendar uint64

func calendarOf(begin, days int) calendar {
	c := calendar(0)
	for day := begin; day < begin+days; day++ {
		c |= 1 << day
	}
	return c
}

// isBehind says whether all days of c are behind those of d.
func (c calendar) isBehind(d calendar) bool { return c&-c > d }

// begun is when the first jobs of a shop begin, their days, and all lists of workers who can do them then, in lexicographic order.
type begun struct {
	days  []int
	dates []calendar
	lists [][]int
}

// and is what is begun when the next job begins on a day; it is not ok if no worker can do it, or if it cannot be done yet.
func (b begun) and(s api.Shop, day int) (begun, bool) {
	j := s.Jobs[len(b.days)]
	date := calendarOf(day, j.Days)
	for i, before := range b.dates {
		if s.Jobs[i].Float == j.Float && !date.isBehind(before) {
			return begun{}, false
		}
	}
	next := begun{append(slices.Clone(b.days), day), append(slices.Clone(b.dates), date), nil}
	for _, list := range b.lists {
		for worker, w := range s.Workers {
			if has(w, j.Skill) && !b.isBusy(list, worker, date) {
				next.lists = append(next.lists, append(slices.Clone(list), worker))
			}
		}
	}
	return next, len(next.lists) > 0
}

// isBusy says whether a worker does something else on one of the days.
func (b begun) isBusy(list []int, worker int, date calendar) bool {
	for i, other := range list {
		if other == worker && b.dates[i]&date != 0 {
			return true
		}
	}
	return false
}

// firstOf is the first valid plan of those that take at most so many days, by their days and then by their workers.
func firstOf(s api.Shop, b begun, most int) []api.Shift {
	next := len(b.days)
	if next == len(s.Jobs) {
		var plan []api.Shift
		for i, day := range b.days {
			plan = append(plan, api.Shift{Worker: b.lists[0][i], Day: day})
		}
		return plan
	}
	for day := 0; day+s.Jobs[next].Days <= most; day++ {
		with, ok := b.and(s, day)
		if !ok {
			continue
		}
		if plan := firstOf(s, with, most); plan != nil {
			return plan
		}
	}
	return nil
}

// bestOf looks at all plans, those that take fewer days first.
func bestOf(s api.Shop) ([]api.Shift, int) {
	if len(s.Jobs) == 0 {
		return nil, 0
	}
	for most := 0; ; most++ {
		if plan := firstOf(s, begun{lists: [][]int{nil}}, most); plan != nil {
			return plan, most
		}
	}
}

// isValid says whether a plan that has as many shifts as there are jobs is valid, day by day.
func isValid(s api.Shop, plan []api.Shift) bool {
	b := begun{lists: [][]int{nil}}
	for _, x := range plan {
		if x.Day < 0 || x.Day > 30 { // the calendar has no more days
			return false
		}
		with, ok := b.and(s, x.Day)
		if !ok {
			return false
		}
		b = with
	}
	var workers []int
	for _, x := range plan {
		workers = append(workers, x.Worker)
	}
	return slices.ContainsFunc(b.lists, func(list []int) bool { return slices.Equal(list, workers) })
}

func anyWorker(pick *rand.Rand) api.Worker {
	if pick.IntN(6) == 0 {
		return all
	}
	return api.Worker{Weld: pick.IntN(2) == 0, Carve: pick.IntN(2) == 0, Paint: pick.IntN(2) == 0}
}

// size is how large a shop may be.
type size struct{ workers, jobs, days, floats int }

// Plans of tiny and of wide shops can all be looked at; those of full ones cannot.
var tiny, wide, full = size{3, 4, 3, 3}, size{4, 7, 3, 7}, size{4, 7, 30, 7}

// anyShop is a shop in which each job has a worker.
func anyShop(pick *rand.Rand, z size) api.Shop {
	for {
		s := api.Shop{}
		for range 1 + pick.IntN(z.workers) {
			s.Workers = append(s.Workers, anyWorker(pick))
		}
		floats := max(1+pick.IntN(z.floats), 1+pick.IntN(z.floats))
		for range max(pick.IntN(z.jobs+1), pick.IntN(z.jobs+1)) {
			s.Jobs = append(s.Jobs, job(pick.IntN(floats), 1+pick.IntN(3), 1+pick.IntN(z.days)))
		}
		if isStaffed(s) {
			return s
		}
	}
}

func shops(seed uint64, many int, z size) []api.Shop {
	pick := rand.New(rand.NewPCG(seed, 8))
	var list []api.Shop
	for range many {
		list = append(list, anyShop(pick, z))
	}
	return list
}

// guilds are shops in which each skill has its worker, and the floats of which stand in each other's way.
func guilds(seed uint64, many int) []api.Shop {
	pick := rand.New(rand.NewPCG(seed, 8))
	var list []api.Shop
	for range many {
		s := api.Shop{Workers: []api.Worker{{Weld: true}, {Carve: true}, {Paint: true}}}
		for number := range 7 {
			s.Jobs = append(s.Jobs, job(number%3, 1+pick.IntN(3), 1+pick.IntN(3)))
		}
		list = append(list, s)
	}
	return list
}

// yard is frames, designs and a route.
type yard struct {
	frames  []api.Float
	designs [][]api.Load
	route   []api.Hurdle
}

// anyFrame is a small frame, and sometimes one that is not valid.
func anyFrame(pick *rand.Rand) api.Float {
	return api.Float{Length: 10, Width: 2, Front: pick.IntN(5), Rear: 4 + pick.IntN(6), Turn: pick.IntN(8), Kilos: pick.IntN(12), Middle: pick.IntN(11), High: pick.IntN(6), Loads: make([]api.Load, pick.IntN(2))}
}

func anyDesign(pick *rand.Rand) []api.Load {
	var l []api.Load
	for range pick.IntN(3) {
		kilos, top := pick.IntN(6), pick.IntN(6)
		l = append(l, api.Load{At: 3 + pick.IntN(5), Kilos: span(kilos, kilos+pick.IntN(4)), Top: span(top, top+pick.IntN(3)), Kind: 1 + pick.IntN(4)})
	}
	return l
}

func anyRoute(pick *rand.Rand) []api.Hurdle {
	var l []api.Hurdle
	for range pick.IntN(3) {
		switch pick.IntN(3) {
		case 0:
			l = append(l, bend(pick.IntN(8), 10+pick.IntN(16)))
		case 1:
			l = append(l, wire(2+pick.IntN(8)))
		case 2:
			l = append(l, bridge(6+pick.IntN(20), 4+pick.IntN(15)))
		}
	}
	return l
}

func yards(seed uint64, many, frames, designs int) []yard {
	pick := rand.New(rand.NewPCG(seed, 8))
	var list []yard
	for range many {
		y := yard{route: anyRoute(pick)}
		for range pick.IntN(frames + 1) {
			y.frames = append(y.frames, anyFrame(pick))
		}
		for range pick.IntN(designs + 1) {
			y.designs = append(y.designs, anyDesign(pick))
		}
		list = append(list, y)
	}
	return list
}

func sameShop(a, b api.Shop) bool {
	return slices.Equal(a.Workers, b.Workers) && slices.Equal(a.Jobs, b.Jobs)
}

func sameTable(a, b [][]bool) bool { return slices.EqualFunc(a, b, slices.Equal[[]bool]) }
