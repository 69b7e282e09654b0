package marks_test

// The model follows the section Terms of the chapter word by word: it looks for each judge's envelope in the list, takes the least mark away as often as marks are dropped, holds each school against each other one, and goes through all marks that may be in sealed envelopes. The other tests hold the package against it.

import (
	"iter"
	"math/rand/v2"
	"slices"

	"bateria/api"
)

const sure, never, open = api.Sure, api.Never, api.Open

func span(low, high int) api.Span { return api.Span{Lo: low, Hi: high} }

// envelope is one with its seal.
func envelope(matter, judge int, marks ...int) api.Envelope {
	sum := 101*(matter+1) + 1009*(judge+1)
	for school, mark := range marks {
		sum += (school + 1) * mark
	}
	return api.Envelope{Matter: matter, Judge: judge, Marks: marks, Seal: sum % 997}
}

func absence(matter, judge int) api.Absence { return api.Absence{Matter: matter, Judge: judge} }

// samba is the scale S of the chapter's examples, told is the night N.
func samba() api.Scale {
	return api.Scale{Schools: 3, Matters: 2, Judges: 3, Drop: 1, Low: 50, High: 100, Order: []int{1, 0}}
}

func told() api.Night {
	return api.Night{
		Opened: []api.Envelope{
			{Matter: 0, Judge: 0, Marks: []int{100, 90, 80}, Seal: 633},
			{Matter: 0, Judge: 1, Marks: []int{90, 100, 80}, Seal: 655},
			{Matter: 0, Judge: 2, Marks: []int{95, 95, 95}, Seal: 707},
			{Matter: 1, Judge: 0, Marks: []int{80, 90, 100}, Seal: 774},
			{Matter: 1, Judge: 1, Marks: []int{100, 70, 90}, Seal: 736},
		},
		Absent: []api.Absence{{Matter: 1, Judge: 2}},
		Fines:  []api.Fine{{School: 2, Points: 5}},
	}
}

// before is told without its last envelope.
func before() api.Night { return retold(func(n *api.Night) { n.Opened = n.Opened[:4] }) }

// changed is samba after a change, retold is told after one.
func changed(change func(s *api.Scale)) api.Scale {
	s := samba()
	change(&s)
	return s
}

func retold(change func(n *api.Night)) api.Night {
	n := told()
	change(&n)
	return n
}

// greatest is a scale and a night with the greatest numbers that may be; the last school has the greatest marks.
func greatest() (api.Scale, api.Night) {
	s, n := api.Scale{Schools: 8, Matters: 6, Judges: 5, High: 100, Order: []int{5, 4, 3, 2, 1, 0}}, api.Night{}
	for matter := range 6 {
		for judge := range 5 {
			n.Opened = append(n.Opened, envelope(matter, judge, 0, 14, 28, 42, 56, 70, 84, 100))
		}
	}
	for range 10 {
		n.Fines = append(n.Fines, api.Fine{School: 0, Points: 1000})
	}
	return s, n
}

// paper is all marks, by matter, judge and school; a judge who is absent has none.
type paper [][][]int

// whatIs is the marks that are known, and the judges whose envelopes are still sealed.
func whatIs(s api.Scale, n api.Night) (p paper, sealed []api.Absence) {
	for matter := range s.Matters {
		var judges [][]int
		for judge := range s.Judges {
			i := slices.IndexFunc(n.Opened, func(x api.Envelope) bool { return x.Matter == matter && x.Judge == judge })
			switch {
			case i >= 0:
				judges = append(judges, n.Opened[i].Marks)
			case slices.Contains(n.Absent, absence(matter, judge)):
				judges = append(judges, nil)
			default:
				judges = append(judges, slices.Repeat([]int{s.Low}, s.Schools))
				sealed = append(sealed, absence(matter, judge))
			}
		}
		p = append(p, judges)
	}
	return p, sealed
}

// ways is how many papers there may be, or many.
func ways(s api.Scale, n api.Night) int {
	_, sealed := whatIs(s, n)
	many := 1
	for range len(sealed) * s.Schools {
		if many *= s.High - s.Low + 1; many > 1000000 {
			break
		}
	}
	return many
}

// papers hands out all marks that may be, mark by mark from Low to High; the same paper each time.
func papers(s api.Scale, n api.Night) iter.Seq[paper] {
	return func(yield func(paper) bool) {
		p, sealed := whatIs(s, n)
		for {
			if !yield(p) || !nextPaper(s, p, sealed) {
				return
			}
		}
	}
}

// nextPaper makes the next marks in sealed envelopes, as a counter goes on.
func nextPaper(s api.Scale, p paper, sealed []api.Absence) bool {
	for _, x := range sealed {
		marks := p[x.Matter][x.Judge]
		for school := range marks {
			if marks[school] < s.High {
				marks[school]++
				return true
			}
			marks[school] = s.Low
		}
	}
	return false
}

// pointsOf is a school's points of a matter.
func pointsOf(s api.Scale, p paper, school, matter int) int {
	sum, present := 0, 0
	for _, marks := range p[matter] {
		if marks != nil {
			sum += marks[school]
			present++
		}
	}
	var list []int
	for _, marks := range p[matter] {
		if marks != nil {
			list = append(list, marks[school])
		} else {
			list = append(list, sum/present)
		}
	}
	for range s.Drop {
		i := slices.Index(list, slices.Min(list))
		list = slices.Delete(list, i, i+1)
	}
	points := 0
	for _, mark := range list {
		points += mark
	}
	return points
}

func totalOf(s api.Scale, n api.Night, p paper, school int) int {
	total := 0
	for matter := range s.Matters {
		total += pointsOf(s, p, school, matter)
	}
	for _, x := range n.Fines {
		if x.School == school {
			total -= x.Points
		}
	}
	return total
}

// isAhead says whether a school stands ahead of another one.
func isAhead(s api.Scale, n api.Night, p paper, a, b int) bool {
	if x, y := totalOf(s, n, p, a), totalOf(s, n, p, b); x != y {
		return x > y
	}
	for _, matter := range s.Order {
		if x, y := pointsOf(s, p, a, matter), pointsOf(s, p, b, matter); x != y {
			return x > y
		}
	}
	return a < b
}

func placeOf(s api.Scale, n api.Night, p paper, school int) int {
	place := 1
	for other := range s.Schools {
		if other != school && isAhead(s, n, p, other, school) {
			place++
		}
	}
	return place
}

// may is what a school may have: its totals and places, in all that may be.
type may struct {
	total, place api.Span
	first, later bool
}

// outcomes goes through all that may be, school by school.
func outcomes(s api.Scale, n api.Night) []may {
	all := make([]may, s.Schools)
	for school := range all {
		all[school] = may{total: span(1000000, -1000000), place: span(1000000, -1000000)}
	}
	for p := range papers(s, n) {
		for school := range all {
			x := &all[school]
			total, place := totalOf(s, n, p, school), placeOf(s, n, p, school)
			x.total = span(min(x.total.Lo, total), max(x.total.Hi, total))
			x.place = span(min(x.place.Lo, place), max(x.place.Hi, place))
			x.first, x.later = x.first || place == 1, x.later || place > 1
		}
	}
	return all
}

func (x may) verdict() int {
	switch {
	case !x.later:
		return sure
	case !x.first:
		return never
	}
	return open
}

// trial is a scale and a valid night.
type trial struct {
	s api.Scale
	n api.Night
}

// trials are small nights with marks that are near to each other, the same ones each time.
func trials(many int) []trial {
	pick := rand.New(rand.NewPCG(5, 6))
	var all []trial
	for range many {
		s := smallScale(pick)
		all = append(all, trial{s, smallNight(pick, s, pick.IntN(4), 1+pick.IntN(4))})
	}
	return all
}

// decided are small nights of which no envelope is sealed any more.
func decided(many int) []trial {
	pick := rand.New(rand.NewPCG(7, 8))
	var all []trial
	for range many {
		s := smallScale(pick)
		s.Schools, s.High = s.Schools+pick.IntN(3), min(s.High+pick.IntN(6), 100)
		all = append(all, trial{s, smallNight(pick, s, 0, pick.IntN(9))})
	}
	return all
}

// large are nights with more schools, matters, judges and marks, of which some envelopes are sealed.
func large(many int) []trial {
	pick := rand.New(rand.NewPCG(9, 10))
	var all []trial
	for range many {
		s := api.Scale{Schools: 1 + pick.IntN(8), Matters: 1 + pick.IntN(6), Judges: 1 + pick.IntN(5), Low: pick.IntN(101)}
		s.Drop, s.High, s.Order = pick.IntN(s.Judges), s.Low+pick.IntN(101-s.Low), pick.Perm(s.Matters)
		n := smallNight(pick, s, pick.IntN(9), 300)
		all = append(all, trial{s, n})
	}
	return all
}

func smallScale(pick *rand.Rand) api.Scale {
	s := api.Scale{Schools: 1 + pick.IntN(3), Matters: 1 + pick.IntN(2), Judges: 1 + pick.IntN(4), Low: pick.IntN(4)}
	s.Drop, s.High, s.Order = pick.IntN(s.Judges), s.Low+1+pick.IntN(2), pick.Perm(s.Matters)
	return s
}

// smallNight is a night in which so many envelopes are sealed, at most; some envelopes and absences are there twice, and nothing is in order. Fines are less than a number.
func smallNight(pick *rand.Rand, s api.Scale, sealed, fine int) api.Night {
	n := api.Night{}
	for matter := range s.Matters {
		came := pick.IntN(s.Judges)
		for judge := range s.Judges {
			switch {
			case judge != came && pick.IntN(4) == 0:
				n.Absent = append(n.Absent, absence(matter, judge))
			case sealed > 0 && pick.IntN(2) == 0:
				sealed--
			default:
				n.Opened = append(n.Opened, envelope(matter, judge, anyMarks(pick, s)...))
			}
		}
	}
	if len(n.Opened) > 0 && pick.IntN(3) == 0 {
		x := n.Opened[pick.IntN(len(n.Opened))]
		n.Opened = append(n.Opened, envelope(x.Matter, x.Judge, slices.Clone(x.Marks)...))
	}
	if len(n.Absent) > 0 && pick.IntN(3) == 0 {
		n.Absent = append(n.Absent, n.Absent[0])
	}
	for range pick.IntN(3) {
		n.Fines = append(n.Fines, api.Fine{School: pick.IntN(s.Schools), Points: pick.IntN(fine + 1)})
	}
	return shuffled(pick, n)
}

func anyMarks(pick *rand.Rand, s api.Scale) []int {
	var marks []int
	for range s.Schools {
		marks = append(marks, s.Low+pick.IntN(s.High-s.Low+1))
	}
	return marks
}

// shuffled is a night in another order.
func shuffled(pick *rand.Rand, n api.Night) api.Night {
	return api.Night{Opened: mixed(pick, n.Opened), Absent: mixed(pick, n.Absent), Fines: mixed(pick, n.Fines)}
}

func mixed[T any](pick *rand.Rand, list []T) []T {
	list = slices.Clone(list)
	pick.Shuffle(len(list), func(i, j int) { list[i], list[j] = list[j], list[i] })
	return list
}
