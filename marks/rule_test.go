package marks_test

import (
	"math"
	"reflect"
	"slices"
	"strings"
	"testing"

	"bateria/api"
	"bateria/marks"
)

var strange = []int{math.MinInt, math.MinInt + 1, -1, 0, 1, 2, 3, 8, 100, 1000, math.MaxInt - 1, math.MaxInt}

// P1 and R5: any values are taken, and all functions return; R3: with an error the other results are zero values.
func TestStrangeArguments(t *testing.T) {
	for _, a := range strange {
		for _, b := range strange {
			for _, s := range []api.Scale{
				changed(func(s *api.Scale) { s.Schools, s.Matters = a, b }),
				changed(func(s *api.Scale) { s.Judges, s.Drop = a, b }),
				changed(func(s *api.Scale) { s.Low, s.High = a, b }),
				changed(func(s *api.Scale) { s.Order = []int{a, b} }),
				changed(func(s *api.Scale) { s.Matters, s.Order = a, slices.Repeat([]int{b}, 1000) }),
				{Schools: a, Matters: b, Judges: a, Drop: b, Low: a, High: b},
				{},
			} {
				askAll(t, s, told(), 1, 0)
				askAll(t, s, api.Night{}, 0, 2)
			}
			for _, n := range []api.Night{
				retold(func(n *api.Night) { n.Opened[1].Matter, n.Opened[1].Judge = a, b }),
				retold(func(n *api.Night) { n.Opened[1].Seal, n.Opened[1].Marks[0] = a, b }),
				retold(func(n *api.Night) { n.Opened[1].Marks = []int{a, b, a} }),
				retold(func(n *api.Night) { n.Absent[0] = absence(a, b) }),
				retold(func(n *api.Night) { n.Fines[0] = api.Fine{School: a, Points: b} }),
				{Opened: []api.Envelope{{Matter: a, Judge: b}}, Absent: []api.Absence{absence(b, a)}},
				{Absent: make([]api.Absence, 1000)},
				{Fines: make([]api.Fine, 1000)},
				{Opened: make([]api.Envelope, 1000)},
			} {
				askAll(t, samba(), n, 1, 0)
			}
			askAll(t, samba(), told(), a, b)
			askAll(t, samba(), before(), b, a)
			askLeagues(t, [][]int{{a, b}, {b}, nil}, 0)
			askLeagues(t, [][]int{{1, 2, 3}, {a, 4}}, b)
		}
		askLeagues(t, make([][]int, 1000), a)
		askLeagues(t, [][]int{make([]int, 1000)}, a)
	}
	for _, text := range []string{"\x00", "\xff\xfe\n", strings.Repeat("\n", 3000), strings.Repeat(" ", 3000), "scale" + strings.Repeat(" ", 2990) + "\n", head + "marks 0 0 \xff 5\nend 1\n"} {
		if s, n, _, e := marks.Read(text); e == api.OK || !reflect.DeepEqual(s, api.Scale{}) || !reflect.DeepEqual(n, api.Night{}) {
			t.Errorf("Read %q %v %v %v", text, s, n, e)
		}
	}
}

// askAll asks all functions about a scale and a night, and looks for results beside an error.
func askAll(t *testing.T, s api.Scale, n api.Night, school, other int) {
	t.Helper()
	if seal, e := marks.Seal(s, school, other, []int{school, other, 70}); e != api.OK && seal != 0 {
		t.Error("Seal", s, school, other, seal, e)
	}
	if l, e := marks.Missing(s, n); e != api.OK && len(l) > 0 || e != marks.CheckNight(s, n) {
		t.Error("Missing", s, n, l, e)
	}
	if l, e := marks.Table(s, n); e != api.OK && len(l) > 0 {
		t.Error("Table", s, n, l, e)
	}
	if l, e := marks.Totals(s, n); e != api.OK && len(l) > 0 {
		t.Error("Totals", s, n, l, e)
	}
	if place, e := marks.Place(s, n, school); e != api.OK && place != span(0, 0) {
		t.Error("Place", s, n, school, place, e)
	}
	if verdict, e := marks.Wins(s, n, other); e != api.OK && verdict != 0 {
		t.Error("Wins", s, n, other, verdict, e)
	}
	if text, e := marks.Write(s, n); e != api.OK && text != "" {
		t.Error("Write", s, n, text, e)
	}
}

// askLeagues looks for results beside an error.
func askLeagues(t *testing.T, leagues [][]int, n int) {
	t.Helper()
	if l, e := marks.Move(leagues, n); e != api.OK && len(l) > 0 {
		t.Error("Move", leagues, n, l, e)
	}
}

// R4: arguments are not changed, not even behind their ends, and results are new memory.
func TestMemory(t *testing.T) {
	// there is room behind all lists, which belongs to the caller
	s, n, leagues := samba(), told(), [][]int{{1, 2, 3}, {4, 5, 6}, {7, 8}}
	s.Order = append(s.Order, 7, 7)[:2]
	n.Opened = append(n.Opened, envelope(7, 7), envelope(7, 7))[:5]
	for i := range n.Opened {
		n.Opened[i].Marks = append(n.Opened[i].Marks, 7, 7)[:3]
	}
	n.Absent, n.Fines = append(n.Absent, absence(7, 7))[:1], append(n.Fines, api.Fine{School: 7})[:1]
	for i := range leagues {
		leagues[i] = append(leagues[i], 77, 77)[:len(leagues[i])]
	}
	leagues = append(leagues, []int{77})[:3]
	still := n
	still.Opened = n.Opened[:4] // what is behind its end is an envelope of n
	for range 2 {               // a second time, after the results of the first one were changed
		askAll(t, s, n, 1, 0)
		askAll(t, s, still, 1, 0)
		missing, _ := marks.Missing(s, still)
		table, _ := marks.Table(s, n)
		totals, _ := marks.Totals(s, still)
		next, _ := marks.Move(leagues, 1)
		scale, night, _, _ := marks.Read(minutes)
		if !slices.Equal(missing, []api.Absence{absence(1, 1)}) || !sameStanding(table[1], standing(2, 365, 175, 195)) || totals[0] != span(340, 385) || !sameScale(scale, samba()) || !sameNight(night, told()) {
			t.Error(missing, table, totals, scale, night)
		}
		if !slices.EqualFunc(next, [][]int{{1, 2, 4}, {3, 5, 7}, {6, 8}}, slices.Equal[[]int]) {
			t.Error(next)
		}
		missing[0].Judge, table[1].Points[0], totals[0].Lo, scale.Order[0] = 9, 9, 9, 9
		night.Opened[0].Marks[0], night.Opened[1].Seal, night.Absent[0].Judge, night.Fines[0].Points = 9, 9, 9, 9
		for i := range next {
			_ = append(next[i], 9, 9, 9)
			next[i][0], next[i][1] = 9, 9
		}
	}
	if !sameScale(s, samba()) || !sameNight(n, told()) || !slices.EqualFunc(leagues, [][]int{{1, 2, 3}, {4, 5, 6}, {7, 8}}, slices.Equal[[]int]) {
		t.Error(s, n, leagues)
	}
	behind := s.Order[:4][2] == 7 && s.Order[:4][3] == 7 && n.Opened[:7][5].Matter == 7 && n.Opened[:7][6].Judge == 7 && n.Absent[:2][1].Judge == 7 && n.Fines[:2][1].School == 7 && leagues[:4][3][0] == 77
	for _, x := range n.Opened {
		behind = behind && x.Marks[:5][3] == 7 && x.Marks[:5][4] == 7
	}
	for _, league := range leagues {
		behind = behind && league[:len(league)+2][len(league)] == 77 && league[:len(league)+2][len(league)+1] == 77
	}
	if !behind {
		t.Error(s.Order[:4], n.Opened[:7], n.Absent[:2], n.Fines[:2], leagues[:4])
	}
}

// overwrite writes into a list, and behind its end.
func overwrite(list []int) {
	_ = append(list, 77, 77, 77)
	for i := range list {
		list[i] = 55
	}
}

// R4: the lists of a result share no memory with each other.
func TestApart(t *testing.T) {
	s, n := greatest()
	want, _ := marks.Table(s, n)
	list, _ := marks.Table(s, n)
	for i := range list {
		kept := slices.Clone(list[i].Points)
		overwrite(list[i].Points)
		list[i].Points = kept
	}
	if !slices.EqualFunc(list, want, sameStanding) {
		t.Error(list, want)
	}
	for move := range 3 {
		leagues := [][]int{{1, 2, 3, 4}, {5, 6, 7, 8}, {9, 10, 11, 12}}
		want, _ := marks.Move(leagues, move)
		next, _ := marks.Move(leagues, move)
		for i := range next {
			kept := slices.Clone(next[i])
			overwrite(next[i])
			next[i] = kept
		}
		if !slices.EqualFunc(next, want, slices.Equal[[]int]) {
			t.Error(move, next, want)
		}
	}
	scale, night, _, _ := marks.Read(minutes)
	order := slices.Clone(scale.Order)
	overwrite(scale.Order)
	scale.Order = order
	for i := range night.Opened {
		kept := slices.Clone(night.Opened[i].Marks)
		overwrite(night.Opened[i].Marks)
		night.Opened[i].Marks = kept
	}
	if !sameScale(scale, samba()) || !sameNight(night, told()) {
		t.Error(scale, night)
	}
}

// R4: a nil slice and an empty one are equal.
func TestEmpty(t *testing.T) {
	s := api.Scale{Schools: 1, Matters: 1, Judges: 1, Low: 2, High: 9, Order: []int{0}}
	for _, n := range []api.Night{{}, {Opened: []api.Envelope{}, Absent: []api.Absence{}, Fines: []api.Fine{}}} {
		missing, e := marks.Missing(s, n)
		totals, e2 := marks.Totals(s, n)
		text, e3 := marks.Write(s, n)
		if !slices.Equal(missing, []api.Absence{absence(0, 0)}) || !slices.Equal(totals, []api.Span{span(2, 9)}) || text != "scale 1 1 1 0 2 9\norder 0\nend 0\n" || e+e2+e3 != api.OK {
			t.Error(missing, totals, text, e, e2, e3)
		}
	}
	for _, list := range [][]int{nil, {}} {
		wrong := s
		wrong.Order = list
		_, e := marks.Seal(s, 0, 0, list)
		e2 := marks.CheckNight(s, api.Night{Opened: []api.Envelope{{Marks: list, Seal: 113}}})
		if e != api.ErrForm || e2 != api.ErrForm || marks.Check(wrong) != api.ErrForm {
			t.Error(e, e2, marks.Check(wrong))
		}
		next, e := marks.Move([][]int{list, {1}, list}, 0)
		if !slices.EqualFunc(next, [][]int{nil, {1}, nil}, slices.Equal[[]int]) || e != api.OK {
			t.Error(next, e)
		}
	}
}

// R7: the greatest sums are exact.
func TestGreatest(t *testing.T) {
	s, n := greatest()
	list, e := marks.Table(s, n)
	if e != api.OK || !sameStanding(list[0], standing(7, 3000, 500, 500, 500, 500, 500, 500)) || !sameStanding(list[7], standing(0, -10000, 0, 0, 0, 0, 0, 0)) {
		t.Error(list, e)
	}
	totals, e := marks.Totals(s, api.Night{Fines: n.Fines})
	if e != api.OK || totals[0] != span(-10000, -7000) || totals[7] != span(0, 3000) {
		t.Error(totals, e)
	}
	for school := range 8 {
		place, e := marks.Place(s, api.Night{}, school)
		verdict, e2 := marks.Wins(s, api.Night{}, school)
		if place != span(1, 8) || verdict != open || e+e2 != api.OK {
			t.Error(school, place, verdict, e, e2)
		}
	}
	if text, e := marks.Write(s, n); len(text) > 3000 || e != api.OK {
		t.Error(len(text), e)
	}
}
