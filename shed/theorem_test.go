package shed_test

import (
	"math/rand/v2"
	"slices"
	"testing"

	"bateria/api"
	"bateria/float"
	"bateria/shed"
)

func fits(t *testing.T, y yard) [][]bool {
	t.Helper()
	table, e := shed.Fits(y.frames, y.designs, y.route)
	if e != api.OK || len(table) != len(y.frames) {
		t.Fatal(y, table, e)
	}
	return table
}

func match(t *testing.T, y yard) []int {
	t.Helper()
	l, e := shed.Match(y.frames, y.designs, y.route)
	if e != api.OK || len(l) != len(y.designs) {
		t.Fatal(y, l, e)
	}
	return l
}

func best(t *testing.T, s api.Shop) ([]api.Shift, int) {
	t.Helper()
	plan, days, e := shed.Best(s)
	if e != api.OK || len(plan) != len(s.Jobs) {
		t.Fatal(s, plan, days, e)
	}
	return plan, days
}

func bound(t *testing.T, s api.Shop) int {
	t.Helper()
	days, e := shed.Bound(s)
	if e != api.OK {
		t.Fatal(s, days, e)
	}
	return days
}

// P8.1 and P8.6: a frame that fits carries its design in every truth of the loads, and one that does not fit is not valid with it, or does not carry it in one of them.
func TestAllTruths(t *testing.T) {
	found := map[bool]int{}
	for _, y := range yards(1, 400, 4, 4) {
		for i, row := range fits(t, y) {
			for j, is := range row {
				if want := fitsOf(y.frames[i], y.designs[j], y.route); is != want {
					t.Error(y, i, j, is, want)
				}
				if len(y.designs[j]) > 0 {
					found[is]++
				}
			}
		}
	}
	if found[true] < 200 || found[false] < 200 {
		t.Error("few pairs of a kind:", found)
	}
}

// greedy is the match in which each design takes the first frame that is left.
func greedy(table [][]bool, designs int) []int {
	var l []int
	for design := range designs {
		l = append(l, slices.IndexFunc(table, func(row []bool) bool {
			return row[design] && !slices.ContainsFunc(l, func(frame int) bool { return frame >= 0 && &table[frame][0] == &row[0] })
		}))
	}
	return l
}

// P8.1 and P8.7: all matches are looked at, and none uses more frames, nor as many and comes before.
func TestAllMatches(t *testing.T) {
	better, free, none := 0, 0, 0
	for _, y := range slices.Concat(yards(2, 1500, 4, 4), yards(3, 300, 6, 6)) {
		l := match(t, y)
		table := fits(t, y)
		if want := matchOf(table, len(y.designs)); !slices.Equal(l, want) {
			t.Error(y, l, want)
		}
		if without(l) < without(greedy(table, len(y.designs))) {
			better++
		}
		if len(l) > 0 && without(l) == 0 {
			free++
		}
		if without(l) > 1 {
			none++
		}
	}
	if better < 20 || free < 100 || none < 100 {
		t.Error("few matches of a kind:", better, free, none)
	}
}

// P8.7: with a frame more no fewer designs have one.
func TestMoreFrames(t *testing.T) {
	pick := rand.New(rand.NewPCG(4, 8))
	fewer := 0
	for _, y := range yards(5, 1000, 5, 6) {
		more := y
		more.frames = slices.Insert(slices.Clone(y.frames), pick.IntN(len(y.frames)+1), anyFrame(pick))
		a, b := without(match(t, y)), without(match(t, more))
		if b > a || b < a-1 {
			t.Error(y, more, a, b)
		}
		if b < a {
			fewer++
		}
	}
	if fewer < 50 {
		t.Error("few frames that are used:", fewer)
	}
}

// anyPlan is a plan for a shop, not always a valid one.
func anyPlan(pick *rand.Rand, s api.Shop) []api.Shift {
	var plan []api.Shift
	for range s.Jobs {
		plan = append(plan, api.Shift{Worker: pick.IntN(len(s.Workers)), Day: pick.IntN(8)})
	}
	return plan
}

// P8.3: a plan is valid just if it is so day by day, and takes up to the last day on which a job is done; P8.9: never fewer days than the bound.
func TestAnyPlans(t *testing.T) {
	pick := rand.New(rand.NewPCG(6, 8))
	found := map[api.Errno]int{}
	for _, s := range shops(7, 6000, tiny) {
		plan := anyPlan(pick, s)
		days, e := shed.Takes(s, plan)
		found[e]++
		if is := isValid(s, plan); is != (e == api.OK) {
			t.Error(s, plan, e, is)
		}
		if e != api.OK {
			continue
		}
		last := 0
		for i, x := range plan {
			last = max(last, x.Day+s.Jobs[i].Days)
		}
		if days != last || days < bound(t, s) {
			t.Error(s, plan, days, last, bound(t, s))
		}
	}
	if found[api.OK] < 500 || found[api.ErrKind] < 500 || found[api.ErrOrder] < 500 || found[api.ErrClash] < 100 {
		t.Error("few plans of a kind:", found)
	}
}

// P8.4 and P8.8: all plans of small shops are looked at; none takes fewer days than that of Best, nor as many and comes before.
func TestAllPlans(t *testing.T) {
	above, waits := 0, 0
	for _, s := range slices.Concat(shops(8, 3000, tiny), shops(9, 1000, wide), guilds(20, 500)) {
		plan, days := best(t, s)
		if want, wantDays := bestOf(s); !slices.Equal(plan, want) || days != wantDays {
			t.Error(s, plan, days, want, wantDays)
		}
		if takes, e := shed.Takes(s, plan); takes != days || e != api.OK {
			t.Error(s, plan, days, takes, e)
		}
		if days > bound(t, s) {
			above++
		}
		if len(plan) > 0 && plan[0].Day > 0 {
			waits++
		}
	}
	if above < 100 || waits < 50 {
		t.Error("few plans of a kind:", above, waits)
	}
}

// P8.8: the plans of Best for shops of any size are valid, and take as many days as said.
func TestBestIsValid(t *testing.T) {
	for _, s := range shops(10, 1000, full) {
		plan, days := best(t, s)
		if takes, e := shed.Takes(s, plan); takes != days || e != api.OK {
			t.Error(s, plan, days, takes, e)
		}
	}
}

// P8.3 and P8.9: no plan takes fewer days than the bound; one worker who can do all takes just the days of all jobs.
func TestBounds(t *testing.T) {
	just, above := 0, 0
	for _, s := range shops(11, 3000, full) {
		least := bound(t, s)
		if want := boundOf(s); least != want {
			t.Error(s, least, want)
		}
		_, days := best(t, s)
		switch {
		case days < least:
			t.Error(s, days, least)
		case days == least:
			just++
		default:
			above++
		}
		alone := crew(1, s.Jobs...)
		if _, days := best(t, alone); days != daysOf(s) || bound(t, alone) != days {
			t.Error(s, days, daysOf(s), bound(t, alone))
		}
	}
	if just < 100 || above < 100 {
		t.Error("few bounds of a kind:", just, above)
	}
}

// better are shops with a worker more, a skill more, a job less, or a shorter job.
func better(pick *rand.Rand, s api.Shop) []api.Shop {
	var list []api.Shop
	if len(s.Workers) < api.MaxWorkers {
		more := s
		more.Workers = slices.Insert(slices.Clone(s.Workers), pick.IntN(len(s.Workers)+1), anyWorker(pick))
		list = append(list, more)
	}
	for i, w := range s.Workers {
		for _, skilled := range []api.Worker{{Weld: true, Carve: w.Carve, Paint: w.Paint}, {Weld: w.Weld, Carve: true, Paint: w.Paint}, {Weld: w.Weld, Carve: w.Carve, Paint: true}} {
			more := s
			more.Workers = slices.Clone(s.Workers)
			more.Workers[i] = skilled
			list = append(list, more)
		}
	}
	for i, j := range s.Jobs {
		less := s
		less.Jobs = slices.Delete(slices.Clone(s.Jobs), i, i+1)
		list = append(list, less)
		if j.Days > 1 {
			shorter := s
			shorter.Jobs = slices.Clone(s.Jobs)
			shorter.Jobs[i].Days = 1 + pick.IntN(j.Days-1)
			list = append(list, shorter)
		}
	}
	return list
}

// P8.10: with a worker more, a skill more, or a job less, or shorter, no more days are needed.
func TestMoreHands(t *testing.T) {
	pick := rand.New(rand.NewPCG(14, 8))
	fewer, same := 0, 0
	for _, s := range shops(15, 150, full) {
		_, days := best(t, s)
		for _, x := range better(pick, s) {
			_, less := best(t, x)
			switch {
			case less > days:
				t.Error(s, days, x, less)
			case less < days:
				fewer++
			default:
				same++
			}
		}
	}
	if fewer < 300 || same < 300 {
		t.Error("few shops of a kind:", fewer, same)
	}
}

// P8.11: no job of Best can be begun earlier, by any worker, if all others stay.
func TestEarly(t *testing.T) {
	looked := 0
	for _, s := range shops(16, 400, full) {
		plan, _ := best(t, s)
		for i, x := range plan {
			for worker := range s.Workers {
				for day := range x.Day {
					early := slices.Clone(plan)
					early[i] = api.Shift{Worker: worker, Day: day}
					if days, e := shed.Takes(s, early); e == api.OK {
						t.Error(s, plan, early, days)
					}
					looked++
				}
			}
		}
	}
	if looked < 10000 {
		t.Error("few earlier days:", looked)
	}
}

// P8.4: of several plans with the same days the one with the first workers is the best: each list of workers that comes before is wrong.
func TestFirstWorkers(t *testing.T) {
	looked := 0
	for _, s := range shops(17, 300, full) {
		plan, _ := best(t, s)
		for i, x := range plan {
			for worker := range x.Worker {
				other := slices.Clone(plan)
				other[i].Worker = worker
				if days, e := shed.Takes(s, other); e == api.OK {
					t.Error(s, plan, other, days)
				}
				looked++
			}
		}
	}
	if looked < 500 {
		t.Error("few other workers:", looked)
	}
}

// T3: each design that a match gives a frame stands and passes the route, and all floats are ready no later than if all frames were new.
func TestBuilt(t *testing.T) {
	pick := rand.New(rand.NewPCG(18, 8))
	sooner, given := 0, 0
	for _, y := range yards(19, 1500, 3, 2) {
		l := match(t, y)
		for design, frame := range l {
			if frame == -1 {
				continue
			}
			given++
			f := built(y.frames[frame], y.designs[design])
			stands, e := float.Stands(f)
			stop, e2 := float.Stops(f, y.route)
			if stands != api.Sure || stop != -1 || e != api.OK || e2 != api.OK {
				t.Error(y, l, f, stands, stop, e, e2)
			}
		}
		weld, carve, paint := pick.IntN(20), pick.IntN(20), pick.IntN(20)
		again, e := shed.Jobs(l, weld, carve, paint)
		anew, e2 := shed.Jobs(slices.Repeat([]int{-1}, len(l)), weld, carve, paint)
		if e != api.OK || e2 != api.OK {
			t.Fatal(l, weld, carve, paint, e, e2)
		}
		s := anyShop(pick, size{4, 0, 1, 1})
		s.Workers = append(s.Workers[:len(s.Workers)-1], all) // so that each job has somebody
		_, days := best(t, api.Shop{Workers: s.Workers, Jobs: again})
		_, most := best(t, api.Shop{Workers: s.Workers, Jobs: anew})
		if days > most {
			t.Error(y, l, s, days, most)
		}
		if days < most {
			sooner++
		}
	}
	if sooner < 200 || given < 400 {
		t.Error("few of a kind:", sooner, given)
	}
}
