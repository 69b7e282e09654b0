package marks_test

import (
	"math/rand/v2"
	"slices"
	"testing"

	"bateria/api"
	"bateria/marks"
	"bateria/song"
)

// answers are what Missing, Totals, Place and Wins say of a valid night.
type answers struct {
	missing        []api.Absence
	totals, places []api.Span
	wins           []int
}

func ask(t *testing.T, x trial) answers {
	t.Helper()
	missing, e := marks.Missing(x.s, x.n)
	totals, e2 := marks.Totals(x.s, x.n)
	if e+e2 != api.OK || len(totals) != x.s.Schools {
		t.Fatal(x, missing, totals, e, e2)
	}
	a := answers{missing: missing, totals: totals}
	for school := range x.s.Schools {
		place, e := marks.Place(x.s, x.n, school)
		verdict, e2 := marks.Wins(x.s, x.n, school)
		if e+e2 != api.OK {
			t.Fatal(x, school, e, e2)
		}
		a.places, a.wins = append(a.places, place), append(a.wins, verdict)
	}
	return a
}

func sameAnswers(a, b answers) bool {
	return slices.Equal(a.missing, b.missing) && slices.Equal(a.totals, b.totals) && slices.Equal(a.places, b.places) && slices.Equal(a.wins, b.wins)
}

// table is what Table says of a night that is decided.
func table(t *testing.T, x trial) []api.Standing {
	t.Helper()
	list, e := marks.Table(x.s, x.n)
	if e != api.OK || len(list) != x.s.Schools {
		t.Fatal(x, list, e)
	}
	return list
}

// settled is a night after all of its sealed envelopes were opened.
func settled(s api.Scale, n api.Night, p paper) api.Night {
	_, sealed := whatIs(s, n)
	n.Opened = slices.Clone(n.Opened)
	for _, x := range sealed {
		n.Opened = append(n.Opened, envelope(x.Matter, x.Judge, slices.Clone(p[x.Matter][x.Judge])...))
	}
	return n
}

// P5.2 and P5.11: a school has the points, the total and the place that the rules give; each place is there once, and nobody stands ahead of a school with a greater total.
func TestStandings(t *testing.T) {
	totals, matters, numbers := 0, 0, 0
	for _, x := range decided(1500) {
		p, _ := whatIs(x.s, x.n)
		seen, before := map[int]bool{}, api.Standing{}
		for i, row := range table(t, x) {
			want := api.Standing{School: row.School, Total: totalOf(x.s, x.n, p, row.School)}
			for matter := range x.s.Matters {
				want.Points = append(want.Points, pointsOf(x.s, p, row.School, matter))
			}
			if seen[row.School] || !sameStanding(row, want) || placeOf(x.s, x.n, p, row.School) != i+1 {
				t.Error(x, i, row, want)
			}
			switch {
			case i == 0:
			case before.Total < row.Total:
				t.Error(x, before, row)
			case before.Total > row.Total:
				totals++
			case slices.Equal(before.Points, row.Points):
				numbers++
			default:
				matters++
			}
			seen[row.School], before = true, row
		}
	}
	if totals < 500 || matters < 100 || numbers < 100 {
		t.Error("few places of a kind:", totals, matters, numbers)
	}
}

// P5.1, P5.3 and P5.8: what Missing, Totals, Place and Wins say is so for all marks that may be, and both ends are reached.
func TestAllMarks(t *testing.T) {
	verdicts, wide, sealed := map[int]int{}, 0, 0
	for _, x := range trials(1500) {
		if ways(x.s, x.n) > 20000 {
			continue
		}
		a := ask(t, x)
		if _, missing := whatIs(x.s, x.n); !slices.Equal(a.missing, missing) {
			t.Error(x, a.missing, missing)
		}
		for school, may := range outcomes(x.s, x.n) {
			if a.totals[school] != may.total || a.places[school] != may.place || a.wins[school] != may.verdict() {
				t.Error(x, school, a, may)
			}
			verdicts[may.verdict()]++
			if may.total.Lo < may.total.Hi {
				sealed++
			}
			if may.place.Lo < may.place.Hi {
				wide++
			}
		}
	}
	if verdicts[sure] < 300 || verdicts[never] < 300 || verdicts[open] < 300 || wide < 300 || sealed < 500 {
		t.Error("few schools of a kind:", verdicts, wide, sealed)
	}
}

// P5.8: all marks that may be are really in the envelopes, which are opened.
func TestAllOpened(t *testing.T) {
	nights := 0
	for _, x := range trials(800) {
		if many := ways(x.s, x.n); many == 1 || many > 300 {
			continue
		}
		nights++
		a := ask(t, x)
		totals, places := make([]api.Span, x.s.Schools), make([]api.Span, x.s.Schools)
		for i := range x.s.Schools {
			totals[i], places[i] = span(1000000, -1000000), span(1000000, -1000000)
		}
		for p := range papers(x.s, x.n) {
			for i, row := range table(t, trial{x.s, settled(x.s, x.n, p)}) {
				total, place := &totals[row.School], &places[row.School]
				total.Lo, total.Hi = min(total.Lo, row.Total), max(total.Hi, row.Total)
				place.Lo, place.Hi = min(place.Lo, i+1), max(place.Hi, i+1)
			}
		}
		if !slices.Equal(totals, a.totals) || !slices.Equal(places, a.places) {
			t.Error(x, a, totals, places)
		}
	}
	if nights < 200 {
		t.Error("few nights:", nights)
	}
}

// P5.8: in larger nights, too, totals and places lie within Totals and Place, whatever is in the envelopes.
func TestWithin(t *testing.T) {
	pick := rand.New(rand.NewPCG(11, 12))
	for _, x := range large(150) {
		a := ask(t, x)
		for range 10 {
			for i, row := range table(t, trial{x.s, anyPaper(pick, x)}) {
				total, place := a.totals[row.School], a.places[row.School]
				if row.Total < total.Lo || row.Total > total.Hi || i+1 < place.Lo || i+1 > place.Hi {
					t.Error(x, row, i+1, total, place)
				}
			}
		}
	}
}

// anyPaper is a night after its sealed envelopes were opened, with any marks, or only the least and the greatest ones.
func anyPaper(pick *rand.Rand, x trial) api.Night {
	_, sealed := whatIs(x.s, x.n)
	n, ends := x.n, anyMarks(pick, api.Scale{Schools: x.s.Schools, High: 1})
	n.Opened = slices.Clone(n.Opened)
	for _, seat := range sealed {
		list := anyMarks(pick, x.s)
		if ends[0] == 0 {
			for school, end := range ends {
				list[school] = x.s.Low + end*(x.s.High-x.s.Low)
			}
		}
		n.Opened = append(n.Opened, envelope(seat.Matter, seat.Judge, list...))
	}
	return n
}

// P5.6: in another order, and with envelopes and absences that are there twice, everything but Write is the same.
func TestAnyOrder(t *testing.T) {
	pick := rand.New(rand.NewPCG(13, 14))
	tables := 0
	for _, x := range slices.Concat(trials(300), decided(300), large(150), []trial{{samba(), told()}, {samba(), before()}}) {
		a := ask(t, x)
		standings, e := marks.Table(x.s, x.n)
		if e == api.OK {
			tables++
		}
		for range 3 {
			n := x.n
			n.Opened, n.Absent = slices.Concat(n.Opened, some(pick, n.Opened)), slices.Concat(n.Absent, some(pick, n.Absent))
			y := trial{x.s, shuffled(pick, n)}
			if marks.CheckNight(y.s, y.n) != api.OK {
				t.Fatal(y)
			}
			if b := ask(t, y); !sameAnswers(a, b) {
				t.Error(x, y, a, b)
			}
			if others, e2 := marks.Table(y.s, y.n); !slices.EqualFunc(standings, others, sameStanding) || e != e2 {
				t.Error(x, y, standings, others, e, e2)
			}
		}
	}
	if tables < 300 {
		t.Error("few tables:", tables)
	}
}

// some is a part of a list, in any order.
func some[T any](pick *rand.Rand, list []T) []T { return mixed(pick, list)[:pick.IntN(len(list)+1)] }

// P5.6: an error, too, is there in each order in which nothing else is wrong.
func TestWrongInAnyOrder(t *testing.T) {
	pick := rand.New(rand.NewPCG(15, 16))
	for _, x := range []struct {
		change func(n *api.Night)
		want   api.Errno
	}{
		{func(n *api.Night) { n.Opened[2].Seal = 0 }, api.ErrSealed},
		{func(n *api.Night) { n.Opened = append(n.Opened, envelope(0, 1, 90, 100, 81)) }, api.ErrClash},
		{func(n *api.Night) { n.Absent = append(n.Absent, absence(0, 1)) }, api.ErrClash},
		{func(n *api.Night) { *n = api.Night{Absent: []api.Absence{absence(1, 0), absence(1, 1), absence(1, 2)}} }, api.ErrShort},
		{func(n *api.Night) { n.Fines = append(n.Fines, api.Fine{School: 3}) }, api.ErrMissing},
	} {
		n := retold(x.change)
		for range 20 {
			if n = shuffled(pick, n); marks.CheckNight(samba(), n) != x.want {
				t.Error(n, x.want)
			}
		}
	}
}

// P5.7: an envelope of which one mark is changed, or two marks are exchanged, or that is laid to another judge, does not have its seal.
func TestSealed(t *testing.T) {
	looked := 0
	look := func(s api.Scale, x api.Envelope, want api.Errno) {
		looked++
		if e := marks.CheckNight(s, api.Night{Opened: []api.Envelope{x}}); e != want {
			t.Error(s, x, e)
		}
	}
	s, n := greatest()
	list := []trial{{s, api.Night{Opened: n.Opened[:2]}}, {samba(), told()}}
	for _, x := range slices.Concat(list, large(60)) {
		for _, sealed := range x.n.Opened[:min(len(x.n.Opened), 3)] {
			look(x.s, sealed, api.OK)
			for other := range otherMarks(x.s, sealed.Marks) {
				look(x.s, api.Envelope{Matter: sealed.Matter, Judge: sealed.Judge, Marks: other, Seal: sealed.Seal}, api.ErrSealed)
			}
			for seat := range x.s.Matters * x.s.Judges {
				matter, judge := seat/x.s.Judges, seat%x.s.Judges
				if matter != sealed.Matter || judge != sealed.Judge {
					look(x.s, api.Envelope{Matter: matter, Judge: judge, Marks: sealed.Marks, Seal: sealed.Seal}, api.ErrSealed)
				}
			}
		}
	}
	if looked < 10000 {
		t.Error("few envelopes:", looked)
	}
}

// otherMarks hands out marks of which one is changed, or two that are not equal are exchanged.
func otherMarks(s api.Scale, list []int) func(yield func([]int) bool) {
	return func(yield func([]int) bool) {
		for i, mark := range list {
			for other := s.Low; other <= s.High; other++ {
				changed := slices.Clone(list)
				changed[i] = other
				if other != mark && !yield(changed) {
					return
				}
			}
			for j := range i {
				changed := slices.Clone(list)
				changed[i], changed[j] = list[j], list[i]
				if list[i] != list[j] && !yield(changed) {
					return
				}
			}
		}
	}
}

// P5.7: each judge of each matter has another seal, also for the same marks.
func TestSeals(t *testing.T) {
	s, _ := greatest()
	for _, list := range [][]int{make([]int, 8), slices.Repeat([]int{100}, 8), {1, 2, 3, 4, 5, 6, 7, 99}} {
		seen := map[int]bool{}
		for matter := range 6 {
			for judge := range 5 {
				n, e := marks.Seal(s, matter, judge, list)
				if want := envelope(matter, judge, list...).Seal; n != want || seen[n] || e != api.OK {
					t.Error(matter, judge, list, n, want, e)
				}
				seen[n] = true
			}
		}
	}
}

// P5.9: with one envelope more nothing is wider, and what is Sure or Never stays; when the night is decided, each is one number, that of Table.
func TestOpened(t *testing.T) {
	pick := rand.New(rand.NewPCG(17, 18))
	narrower, decides, ends := 0, 0, 0
	for _, x := range slices.Concat(trials(400), large(100)) {
		a := ask(t, x)
		for len(a.missing) > 0 {
			seat := a.missing[pick.IntN(len(a.missing))]
			x.n.Opened = append(slices.Clone(x.n.Opened), envelope(seat.Matter, seat.Judge, anyMarks(pick, x.s)...))
			b := ask(t, x)
			for school := range x.s.Schools {
				if !isWithin(b.totals[school], a.totals[school]) || !isWithin(b.places[school], a.places[school]) {
					t.Error(x, school, a, b)
				}
				if a.wins[school] != open && b.wins[school] != a.wins[school] {
					t.Error(x, school, a, b)
				}
				if a.places[school] != b.places[school] {
					narrower++
				}
				if a.wins[school] != b.wins[school] {
					decides++
				}
			}
			if len(b.missing) != len(a.missing)-1 || slices.Contains(b.missing, seat) {
				t.Error(x, a.missing, b.missing)
			}
			a = b
		}
		for i, row := range table(t, x) {
			ends++
			verdict := never
			if i == 0 {
				verdict = sure
			}
			if a.totals[row.School] != span(row.Total, row.Total) || a.places[row.School] != span(i+1, i+1) || a.wins[row.School] != verdict {
				t.Error(x, i, row, a)
			}
		}
	}
	if narrower < 500 || decides < 300 || ends < 500 {
		t.Error("few envelopes that change something:", narrower, decides, ends)
	}
}

func isWithin(a, b api.Span) bool { return a.Lo >= b.Lo && a.Hi <= b.Hi && a.Lo <= a.Hi }

// remarked is a night in which a judge gives a school another mark.
func remarked(n api.Night, matter, judge, school, mark int) api.Night {
	opened := slices.Clone(n.Opened)
	for i, x := range opened {
		if x.Matter == matter && x.Judge == judge {
			list := slices.Clone(x.Marks)
			list[school] = mark
			opened[i] = envelope(matter, judge, list...)
		}
	}
	n.Opened = opened
	return n
}

// rowOf is the standing of a school, and its place.
func rowOf(list []api.Standing, school int) (api.Standing, int) {
	i := slices.IndexFunc(list, func(x api.Standing) bool { return x.School == school })
	return list[i], i + 1
}

// P5.10: no school has fewer points with a greater mark, nor a worse place.
func TestGreaterMarks(t *testing.T) {
	more, same, better := 0, 0, 0
	for _, x := range decided(250) {
		list := table(t, x)
		for _, sealed := range x.n.Opened {
			for school, mark := range sealed.Marks {
				before, place := rowOf(list, school)
				for greater := mark + 1; greater <= x.s.High; greater++ {
					y := trial{x.s, remarked(x.n, sealed.Matter, sealed.Judge, school, greater)}
					after, other := rowOf(table(t, y), school)
					if after.Total < before.Total || after.Points[sealed.Matter] < before.Points[sealed.Matter] || other > place {
						t.Error(x, y, before, after, place, other)
					}
					switch {
					case after.Total > before.Total:
						more++
					default:
						same++
					}
					if other < place {
						better++
					}
				}
			}
		}
	}
	if more < 1000 || same < 500 || better < 300 {
		t.Error("few marks of a kind:", more, same, better)
	}
}

// P5.10: a greater mark in an envelope that was opened makes nothing worse while others are still sealed.
func TestGreaterMarksBefore(t *testing.T) {
	pick := rand.New(rand.NewPCG(19, 20))
	better := 0
	for _, x := range slices.Concat(trials(400), large(100)) {
		if len(x.n.Opened) == 0 {
			continue
		}
		a := ask(t, x)
		for range 5 {
			sealed, school := x.n.Opened[pick.IntN(len(x.n.Opened))], pick.IntN(x.s.Schools)
			mark := sealed.Marks[school]
			b := ask(t, trial{x.s, remarked(x.n, sealed.Matter, sealed.Judge, school, mark+pick.IntN(x.s.High-mark+1))})
			total, place, total2, place2 := a.totals[school], a.places[school], b.totals[school], b.places[school]
			if total2.Lo < total.Lo || total2.Hi < total.Hi || place2.Lo > place.Lo || place2.Hi > place.Hi {
				t.Error(x, school, a, b)
			}
			if place2 != place {
				better++
			}
		}
	}
	if better < 50 {
		t.Error("few marks that change something:", better)
	}
}

// P5.10: in a matter without absences, a mark that is dropped can be any lesser one.
func TestDropped(t *testing.T) {
	dropped, lesser := 0, 0
	for _, x := range decided(500) {
		list := table(t, x)
		for _, sealed := range x.n.Opened {
			if slices.ContainsFunc(x.n.Absent, func(a api.Absence) bool { return a.Matter == sealed.Matter }) {
				continue
			}
			for school, mark := range sealed.Marks {
				if !isDropped(x, sealed.Matter, school, mark) {
					continue
				}
				dropped++
				for other := x.s.Low; other < mark; other++ {
					lesser++
					y := trial{x.s, remarked(x.n, sealed.Matter, sealed.Judge, school, other)}
					if !slices.EqualFunc(table(t, y), list, sameStanding) {
						t.Error(x, y, sealed, school, other)
					}
				}
			}
		}
	}
	if dropped < 300 || lesser < 300 {
		t.Error("few marks that are dropped:", dropped, lesser)
	}
}

// isDropped says whether a mark is one of the least marks of a school, which are dropped.
func isDropped(x trial, matter, school, mark int) bool {
	p, _ := whatIs(x.s, x.n)
	var list []int
	for _, judge := range p[matter] {
		list = append(list, judge[school])
	}
	slices.Sort(list)
	return slices.Contains(list[:x.s.Drop], mark)
}

// P5.12: of schools at most one surely wins; if one does, no other may; one may win.
func TestOneWins(t *testing.T) {
	surely, openly := 0, 0
	for _, x := range slices.Concat(trials(400), decided(200), large(200)) {
		wins := ask(t, x).wins
		many := map[int]int{}
		for _, verdict := range wins {
			many[verdict]++
		}
		switch {
		case many[sure] == 1 && many[never] == len(wins)-1:
			surely++
		case many[sure] == 0 && many[open] > 0 && many[open]+many[never] == len(wins):
			openly++
		default:
			t.Error(x, wins)
		}
	}
	if surely < 200 || openly < 200 {
		t.Error("few nights of a kind:", surely, openly)
	}
}

// someLeagues are leagues of any schools, and how many of each may move.
func someLeagues(pick *rand.Rand) ([][]int, int) {
	var leagues [][]int
	schools, n := pick.Perm(60), pick.IntN(9)
	for range pick.IntN(7) {
		many := pick.IntN(9)
		leagues, schools = append(leagues, schools[:many]), schools[many:]
		n = min(n, many/2)
	}
	return leagues, n
}

// leagueOf is the number of the league of a school, and how many schools are ahead of it there.
func leagueOf(leagues [][]int, school int) (int, int) {
	for i, league := range leagues {
		if at := slices.Index(league, school); at >= 0 {
			return i, at
		}
	}
	return -1, -1
}

// P5.4 and P5.13: each school is in one league, before and after; each league is as large as it was; nobody moves by more than one league, and nobody but the first ones and the last ones does.
func TestLeagues(t *testing.T) {
	pick := rand.New(rand.NewPCG(21, 22))
	moves := map[int]int{}
	for range 2000 {
		leagues, n := someLeagues(pick)
		next, e := marks.Move(leagues, n)
		if e != api.OK || len(next) != len(leagues) {
			t.Error(leagues, n, next, e)
			continue
		}
		if all, others := slices.Concat(leagues...), slices.Concat(next...); len(all) != len(others) {
			t.Error(leagues, n, next)
		}
		for i, league := range leagues {
			if len(next[i]) != len(league) {
				t.Error(leagues, n, next, i)
			}
			for at, school := range league {
				want := i
				switch {
				case i < len(leagues)-1 && at >= len(league)-n:
					want = i + 1
				case i > 0 && at < n:
					want = i - 1
				}
				to, _ := leagueOf(next, school)
				if to != want {
					t.Error(leagues, n, next, school)
				}
				moves[to-i]++
			}
			inOrder(t, leagues, next[i], i)
		}
	}
	if moves[-1] < 1000 || moves[0] < 1000 || moves[1] < 1000 || len(moves) != 3 {
		t.Error("few moves of a kind:", moves)
	}
}

// inOrder looks at a league of the next season: who came from a higher league is ahead of others, and of those from one league it is who was ahead there.
func inOrder(t *testing.T, leagues [][]int, league []int, i int) {
	t.Helper()
	for at := 1; at < len(league); at++ {
		a, x := leagueOf(leagues, league[at-1])
		b, y := leagueOf(leagues, league[at])
		if a > b || a == b && x >= y {
			t.Error(leagues, i, league)
		}
	}
}

// juries are the contest and the ballots in which juries give schools the points that judges of one matter do; the first round keeps so many.
func juries(s api.Scale, n api.Night, keep int) (api.Contest, []api.Ballot) {
	c := api.Contest{Songs: s.Schools, Juries: s.Judges, Most: s.High, Rounds: []api.Round{{Keep: keep, Jury: 1}, {Keep: 1, Jury: 1}}}
	if keep == 1 {
		c.Rounds = c.Rounds[:1]
	}
	var l []api.Ballot
	for _, x := range n.Opened {
		for school, mark := range x.Marks {
			l = append(l, api.Ballot{Serial: len(l) + 1, Kind: api.BallotJury, Voter: x.Judge, Song: school, Points: mark})
		}
	}
	return c, l
}

// T7: judges of one matter, of whom no mark is dropped, choose as juries that give the same points; and as long as envelopes are sealed, what may still be is the same.
func TestJudged(t *testing.T) {
	pick := rand.New(rand.NewPCG(23, 24))
	verdicts := map[int]int{}
	for range 600 {
		s := api.Scale{Schools: 1 + pick.IntN(8), Matters: 1, Judges: 1 + pick.IntN(5), High: 1 + pick.IntN(10), Order: []int{0}}
		n, keep := api.Night{}, 1+pick.IntN(s.Schools)
		for judge := range s.Judges {
			n.Opened = append(n.Opened, envelope(0, judge, anyMarks(pick, s)...))
		}
		choosesAlike(t, trial{s, n}, keep)
		n.Opened = n.Opened[:pick.IntN(s.Judges+1)]
		c, l := juries(s, n, keep)
		stays, e := song.Stays(c, l, 0)
		if e != api.OK {
			t.Fatal(c, l, e)
		}
		a := ask(t, trial{s, n})
		for school, place := range a.places {
			want := open
			switch {
			case place.Hi <= keep:
				want = sure
			case place.Lo > keep:
				want = never
			}
			if stays[school] != want || keep == 1 && stays[school] != a.wins[school] {
				t.Error(s, n, keep, stays, a)
			}
			verdicts[want]++
		}
	}
	if verdicts[sure] < 200 || verdicts[never] < 200 || verdicts[open] < 200 {
		t.Error("few verdicts of a kind:", verdicts)
	}
}

// choosesAlike holds the table of a night that is decided against the first round of a contest, and its winner.
func choosesAlike(t *testing.T, x trial, keep int) {
	t.Helper()
	list := table(t, x)
	c, l := juries(x.s, x.n, keep)
	results, _, e := song.Run(c, l)
	one, l2 := juries(x.s, x.n, 1)
	_, winner, e2 := song.Run(one, l2)
	if e+e2 != api.OK || winner != list[0].School {
		t.Fatal(x, winner, list, e, e2)
	}
	var kept []int
	for i, row := range list {
		if results[0].Points[row.School] != row.Total {
			t.Error(x, results, row)
		}
		if i < keep {
			kept = append(kept, row.School)
		}
	}
	slices.Sort(kept)
	if !slices.Equal(results[0].Kept, kept) {
		t.Error(x, results, kept)
	}
}
