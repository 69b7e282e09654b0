package marks_test

import (
	"slices"
	"testing"

	"bateria/api"
	"bateria/marks"
)

var scales = []struct {
	about  string
	change func(s *api.Scale)
	want   api.Errno
}{
	{"the example", func(s *api.Scale) {}, api.OK},
	{"nothing", func(s *api.Scale) { *s = api.Scale{} }, api.ErrRange},
	{"least numbers", func(s *api.Scale) { *s = api.Scale{Schools: 1, Matters: 1, Judges: 1, Order: []int{0}} }, api.OK},
	{"greatest numbers", func(s *api.Scale) { *s, _ = greatest() }, api.OK},
	// numbers
	{"no schools", func(s *api.Scale) { s.Schools = 0 }, api.ErrRange},
	{"schools below 0", func(s *api.Scale) { s.Schools = -1 }, api.ErrRange},
	{"as many schools as may be", func(s *api.Scale) { s.Schools = 8 }, api.OK},
	{"too many schools", func(s *api.Scale) { s.Schools = 9 }, api.ErrRange},
	{"no matters", func(s *api.Scale) { s.Matters, s.Order = 0, nil }, api.ErrRange},
	{"matters below 0", func(s *api.Scale) { s.Matters = -1 }, api.ErrRange},
	{"as many matters as may be", func(s *api.Scale) { s.Matters, s.Order = 6, []int{5, 0, 4, 1, 3, 2} }, api.OK},
	{"too many matters", func(s *api.Scale) { s.Matters, s.Order = 7, []int{0, 1, 2, 3, 4, 5, 6} }, api.ErrRange},
	{"no judges", func(s *api.Scale) { s.Judges, s.Drop = 0, 0 }, api.ErrRange},
	{"judges below 0", func(s *api.Scale) { s.Judges, s.Drop = -1, -2 }, api.ErrRange},
	{"as many judges as may be", func(s *api.Scale) { s.Judges = 5 }, api.OK},
	{"too many judges", func(s *api.Scale) { s.Judges = 6 }, api.ErrRange},
	{"nothing is dropped", func(s *api.Scale) { s.Drop = 0 }, api.OK},
	{"less than nothing is dropped", func(s *api.Scale) { s.Drop = -1 }, api.ErrRange},
	{"all marks but one are dropped", func(s *api.Scale) { s.Drop = 2 }, api.OK},
	{"all marks are dropped", func(s *api.Scale) { s.Drop = 3 }, api.ErrRange},
	{"the only mark is dropped", func(s *api.Scale) { s.Judges, s.Drop = 1, 1 }, api.ErrRange},
	{"the least Low", func(s *api.Scale) { s.Low = 0 }, api.OK},
	{"Low below 0", func(s *api.Scale) { s.Low = -1 }, api.ErrRange},
	{"the greatest Low", func(s *api.Scale) { s.Low = 100 }, api.OK},
	{"too great a Low", func(s *api.Scale) { s.Low = 101 }, api.ErrRange},
	{"the least High", func(s *api.Scale) { s.Low, s.High = 0, 0 }, api.OK},
	{"High below 0", func(s *api.Scale) { s.High = -1 }, api.ErrRange},
	{"too great a High", func(s *api.Scale) { s.High = 101 }, api.ErrRange},
	{"Low and High too great", func(s *api.Scale) { s.Low, s.High = 102, 101 }, api.ErrRange},
	// which mark is greater
	{"one mark", func(s *api.Scale) { s.Low, s.High = 70, 70 }, api.OK},
	{"Low above High", func(s *api.Scale) { s.Low, s.High = 71, 70 }, api.ErrOrder},
	{"schools before Low above High", func(s *api.Scale) { s.Schools, s.Low, s.High = 9, 71, 70 }, api.ErrRange},
	{"what is dropped before Low above High", func(s *api.Scale) { s.Drop, s.Low, s.High = 3, 71, 70 }, api.ErrRange},
	{"Low above High before the order", func(s *api.Scale) { s.Low, s.High, s.Order = 71, 70, nil }, api.ErrOrder},
	// the order
	{"no order", func(s *api.Scale) { s.Order = nil }, api.ErrForm},
	{"too short an order", func(s *api.Scale) { s.Order = []int{0} }, api.ErrForm},
	{"too long an order", func(s *api.Scale) { s.Order = []int{0, 1, 0} }, api.ErrForm},
	{"too long an order before what is in it", func(s *api.Scale) { s.Order = []int{0, 9, 0} }, api.ErrForm},
	{"matters before the order", func(s *api.Scale) { s.Matters, s.Order = 7, nil }, api.ErrRange},
	{"the other order", func(s *api.Scale) { s.Order = []int{0, 1} }, api.OK},
	{"a matter below 0", func(s *api.Scale) { s.Order = []int{-1, 0} }, api.ErrMissing},
	{"a matter that is not", func(s *api.Scale) { s.Order = []int{0, 2} }, api.ErrMissing},
	{"a matter twice", func(s *api.Scale) { s.Order = []int{1, 1} }, api.ErrExists},
	{"a matter twice, with another one between", func(s *api.Scale) { s.Matters, s.Order = 3, []int{2, 1, 2} }, api.ErrExists},
	{"a matter that is not, twice", func(s *api.Scale) { s.Order = []int{2, 2} }, api.ErrMissing},
	{"a matter twice before one that is not", func(s *api.Scale) { s.Matters, s.Order = 3, []int{1, 1, 3} }, api.ErrExists},
	{"a matter that is not before one twice", func(s *api.Scale) { s.Matters, s.Order = 3, []int{3, 1, 1} }, api.ErrMissing},
}

var nights = []struct {
	about  string
	change func(n *api.Night)
	want   api.Errno
}{
	{"the example", func(n *api.Night) {}, api.OK},
	{"nothing is known", func(n *api.Night) { *n = api.Night{} }, api.OK},
	// how many envelopes
	{"as many envelopes as may be", func(n *api.Night) { n.Opened = slices.Repeat(n.Opened, 12) }, api.OK},
	{"too many envelopes", func(n *api.Night) { n.Opened = append(slices.Repeat(n.Opened, 12), n.Opened[0]) }, api.ErrFull},
	{"too many envelopes before what is in them", func(n *api.Night) { n.Opened = make([]api.Envelope, 61) }, api.ErrFull},
	{"what is in them", func(n *api.Night) { n.Opened = make([]api.Envelope, 60) }, api.ErrForm},
	// envelopes
	{"a matter below 0", func(n *api.Night) { n.Opened[1].Matter = -1 }, api.ErrMissing},
	{"a matter that is not", func(n *api.Night) { n.Opened[1].Matter = 2 }, api.ErrMissing},
	{"a judge below 0", func(n *api.Night) { n.Opened[1].Judge = -1 }, api.ErrMissing},
	{"a judge who is not", func(n *api.Night) { n.Opened[1].Judge = 3 }, api.ErrMissing},
	{"a matter before the marks", func(n *api.Night) { n.Opened[1].Matter, n.Opened[1].Marks = 2, nil }, api.ErrMissing},
	{"a judge before the marks", func(n *api.Night) { n.Opened[1].Judge, n.Opened[1].Marks = 3, []int{101, 0, 0} }, api.ErrMissing},
	{"no marks", func(n *api.Night) { n.Opened[1].Marks = nil }, api.ErrForm},
	{"too few marks", func(n *api.Night) { n.Opened[1].Marks = n.Opened[1].Marks[:2] }, api.ErrForm},
	{"too many marks", func(n *api.Night) { n.Opened[1].Marks = append(n.Opened[1].Marks, 50) }, api.ErrForm},
	{"too many marks before one that is too great", func(n *api.Night) { n.Opened[1].Marks = []int{90, 101, 80, 50} }, api.ErrForm},
	{"the least mark", func(n *api.Night) { n.Opened[1] = envelope(0, 1, 50, 50, 50) }, api.OK},
	{"too small a mark", func(n *api.Night) { n.Opened[1] = envelope(0, 1, 50, 50, 49) }, api.ErrRange},
	{"the greatest mark", func(n *api.Night) { n.Opened[1] = envelope(0, 1, 100, 100, 100) }, api.OK},
	{"too great a mark", func(n *api.Night) { n.Opened[1] = envelope(0, 1, 101, 100, 100) }, api.ErrRange},
	{"too great a mark before the seal", func(n *api.Night) { n.Opened[1].Marks[2] = 101 }, api.ErrRange},
	{"a mark that is changed", func(n *api.Night) { n.Opened[0].Marks[1] = 91 }, api.ErrSealed},
	{"two marks that are exchanged", func(n *api.Night) { n.Opened[0].Marks = []int{90, 100, 80} }, api.ErrSealed},
	{"a seal that is changed", func(n *api.Night) { n.Opened[4].Seal = 737 }, api.ErrSealed},
	{"a seal that is not divided", func(n *api.Night) { n.Opened[0].Seal = 1630 }, api.ErrSealed},
	{"a seal below 0", func(n *api.Night) { n.Opened[0].Seal = 633 - 997 }, api.ErrSealed},
	{"another matter", func(n *api.Night) { n.Opened[0].Matter = 1 }, api.ErrSealed},
	{"another judge", func(n *api.Night) { n.Opened[0].Judge = 1 }, api.ErrSealed},
	{"a seal before other marks", func(n *api.Night) { n.Opened = append(n.Opened, envelope(0, 0, 51, 52, 53)); n.Opened[5].Seal++ }, api.ErrSealed},
	{"an envelope twice", func(n *api.Night) { n.Opened = append(n.Opened, n.Opened[0]) }, api.OK},
	{"other marks with another seal", func(n *api.Night) { n.Opened = append(n.Opened, envelope(0, 0, 100, 90, 81)) }, api.ErrClash},
	{"other marks with the same seal", func(n *api.Night) { n.Opened = append(n.Opened, envelope(0, 0, 98, 91, 80)) }, api.ErrClash},
	{"other marks in the first envelope", func(n *api.Night) { n.Opened = slices.Insert(n.Opened, 0, envelope(0, 1, 90, 100, 81)) }, api.ErrClash},
	{"the same, and then other marks", func(n *api.Night) { n.Opened = append(n.Opened, n.Opened[0], envelope(0, 0, 100, 90, 81)) }, api.ErrClash},
	{"the same marks by another judge", func(n *api.Night) { n.Opened[1] = envelope(0, 1, 100, 90, 80) }, api.OK},
	{"the same marks of another matter", func(n *api.Night) { n.Opened[3] = envelope(1, 0, 100, 90, 80) }, api.OK},
	{"other marks before a mark of the next envelope", func(n *api.Night) {
		n.Opened = append(n.Opened, envelope(0, 0, 100, 90, 81), envelope(0, 0, 101, 90, 80))
	}, api.ErrClash},
	{"a mark before other marks in the next envelope", func(n *api.Night) {
		n.Opened = append(n.Opened, envelope(0, 0, 101, 90, 80), envelope(0, 0, 100, 90, 81))
	}, api.ErrRange},
	// absences
	{"as many absences as may be", func(n *api.Night) { n.Absent = slices.Repeat(n.Absent, 60) }, api.OK},
	{"too many absences", func(n *api.Night) { n.Absent = slices.Repeat(n.Absent, 61) }, api.ErrFull},
	{"too many absences before who is absent", func(n *api.Night) { n.Absent = slices.Repeat([]api.Absence{{Matter: 9}}, 61) }, api.ErrFull},
	{"an envelope before too many absences", func(n *api.Night) { n.Opened[4].Seal, n.Absent = 0, make([]api.Absence, 61) }, api.ErrSealed},
	{"an absence of a matter below 0", func(n *api.Night) { n.Absent[0].Matter = -1 }, api.ErrMissing},
	{"an absence of a matter that is not", func(n *api.Night) { n.Absent[0].Matter = 2 }, api.ErrMissing},
	{"an absence of a judge below 0", func(n *api.Night) { n.Absent[0].Judge = -1 }, api.ErrMissing},
	{"an absence of a judge who is not", func(n *api.Night) { n.Absent[0].Judge = 3 }, api.ErrMissing},
	{"an absence of a judge of whom there is an envelope", func(n *api.Night) { n.Absent[0].Judge = 1 }, api.ErrClash},
	{"an absence of a judge of whom there is an envelope of another matter", func(n *api.Night) { n.Opened = n.Opened[:4] }, api.OK},
	{"an absence twice", func(n *api.Night) { n.Absent = append(n.Absent, n.Absent[0]) }, api.OK},
	{"one absence before the next one", func(n *api.Night) { n.Absent = []api.Absence{{Matter: 0, Judge: 0}, {Matter: 2}} }, api.ErrClash},
	{"one absence before the next one, the other way", func(n *api.Night) { n.Absent = []api.Absence{{Matter: 2}, {Matter: 0, Judge: 0}} }, api.ErrMissing},
	{"all judges of a matter but one are absent", func(n *api.Night) {
		*n = api.Night{Absent: []api.Absence{{Matter: 0, Judge: 2}, {Matter: 0, Judge: 1}, {Matter: 1, Judge: 0}, {Matter: 1, Judge: 2}}}
	}, api.OK},
	{"all judges of the first matter are absent", func(n *api.Night) {
		*n = api.Night{Absent: []api.Absence{{Matter: 0, Judge: 2}, {Matter: 0, Judge: 0}, {Matter: 0, Judge: 1}}}
	}, api.ErrShort},
	{"all judges of the last matter are absent", func(n *api.Night) {
		*n = api.Night{Absent: []api.Absence{{Matter: 1, Judge: 2}, {Matter: 1, Judge: 0}, {Matter: 1, Judge: 1}}}
	}, api.ErrShort},
	{"one judge is absent three times", func(n *api.Night) { n.Absent = slices.Repeat(n.Absent, 3) }, api.OK},
	{"an absence before a matter without judges", func(n *api.Night) {
		*n = api.Night{Absent: []api.Absence{{Matter: 0, Judge: 2}, {Matter: 0, Judge: 0}, {Matter: 0, Judge: 1}, {Matter: 2}}}
	}, api.ErrMissing},
	{"a matter without judges before too many fines", func(n *api.Night) {
		*n = api.Night{Absent: []api.Absence{{Matter: 0, Judge: 2}, {Matter: 0, Judge: 0}, {Matter: 0, Judge: 1}}, Fines: make([]api.Fine, 11)}
	}, api.ErrShort},
	// fines
	{"as many fines as may be", func(n *api.Night) { n.Fines = make([]api.Fine, 10) }, api.OK},
	{"too many fines", func(n *api.Night) { n.Fines = make([]api.Fine, 11) }, api.ErrFull},
	{"too many fines before what they are", func(n *api.Night) { n.Fines = slices.Repeat([]api.Fine{{School: 9}}, 11) }, api.ErrFull},
	{"an absence before too many fines", func(n *api.Night) { n.Absent[0].Judge, n.Fines = 1, make([]api.Fine, 11) }, api.ErrClash},
	{"a fine of a school below 0", func(n *api.Night) { n.Fines[0].School = -1 }, api.ErrMissing},
	{"a fine of a school that is not", func(n *api.Night) { n.Fines[0].School = 3 }, api.ErrMissing},
	{"a fine of a school before its points", func(n *api.Night) { n.Fines[0] = api.Fine{School: 3, Points: -1} }, api.ErrMissing},
	{"a fine of nothing", func(n *api.Night) { n.Fines[0].Points = 0 }, api.OK},
	{"a fine below 0", func(n *api.Night) { n.Fines[0].Points = -1 }, api.ErrRange},
	{"the greatest fine", func(n *api.Night) { n.Fines[0].Points = 1000 }, api.OK},
	{"too great a fine", func(n *api.Night) { n.Fines[0].Points = 1001 }, api.ErrRange},
	{"a fine twice", func(n *api.Night) { n.Fines = append(n.Fines, n.Fines[0]) }, api.OK},
	{"one fine before the next one", func(n *api.Night) { n.Fines = []api.Fine{{Points: 1001}, {School: 3}} }, api.ErrRange},
	{"one fine before the next one, the other way", func(n *api.Night) { n.Fines = []api.Fine{{School: 3}, {Points: 1001}} }, api.ErrMissing},
}

// errors are the errors of all functions that look at a scale and a night.
func errors(s api.Scale, n api.Night, school int) map[string]api.Errno {
	all := map[string]api.Errno{"CheckNight": marks.CheckNight(s, n)}
	_, all["Missing"] = marks.Missing(s, n)
	_, all["Table"] = marks.Table(s, n)
	_, all["Totals"] = marks.Totals(s, n)
	_, all["Place"] = marks.Place(s, n, school)
	_, all["Wins"] = marks.Wins(s, n, school)
	_, all["Write"] = marks.Write(s, n)
	return all
}

// P5.1: Check, and the errors that the others return first.
func TestCheck(t *testing.T) {
	for _, x := range scales {
		s := changed(x.change)
		if e := marks.Check(s); e != x.want {
			t.Error(x.about, e)
		}
		// a scale that is valid lets the night be looked at
		want, sealed := x.want, x.want
		if want == api.OK {
			want, sealed = api.ErrFull, api.ErrMissing
		}
		for name, e := range errors(s, api.Night{Opened: make([]api.Envelope, 61)}, 9) {
			if e != want {
				t.Error(x.about, name, e)
			}
		}
		if _, e := marks.Seal(s, 9, 9, nil); e != sealed {
			t.Error(x.about, "Seal", e)
		}
	}
}

// P5.1: CheckNight, and the errors that the others return then.
func TestCheckNight(t *testing.T) {
	for _, x := range nights {
		n := retold(x.change)
		if e := marks.CheckNight(samba(), n); e != x.want {
			t.Error(x.about, e)
		}
		_, sealed := whatIs(samba(), n)
		for name, e := range errors(samba(), n, 3) {
			want := x.want
			switch {
			case want == api.OK && (name == "Place" || name == "Wins"):
				want = api.ErrMissing
			case want == api.OK && name == "Table" && len(sealed) > 0:
				want = api.ErrState
			}
			if e != want {
				t.Error(x.about, name, e)
			}
		}
	}
}

// P5.1: Seal.
func TestSeal(t *testing.T) {
	for _, x := range []struct {
		about         string
		matter, judge int
		marks         []int
		want          int
		e             api.Errno
	}{
		{"the first example", 0, 0, []int{100, 90, 80}, 633, api.OK},
		{"the second example", 1, 1, []int{100, 70, 90}, 736, api.OK},
		{"the last matter and judge", 1, 2, []int{50, 50, 50}, 538, api.OK},
		{"the greatest marks", 0, 0, []int{100, 100, 100}, 713, api.OK},
		{"a matter below 0", -1, 0, []int{100, 90, 80}, 0, api.ErrMissing},
		{"a matter that is not", 2, 0, []int{100, 90, 80}, 0, api.ErrMissing},
		{"a judge below 0", 0, -1, []int{100, 90, 80}, 0, api.ErrMissing},
		{"a judge who is not", 0, 3, []int{100, 90, 80}, 0, api.ErrMissing},
		{"a matter before the marks", 2, 0, nil, 0, api.ErrMissing},
		{"a judge before the marks", 0, 3, []int{0, 0, 0}, 0, api.ErrMissing},
		{"no marks", 0, 0, nil, 0, api.ErrForm},
		{"too few marks", 0, 0, []int{100, 90}, 0, api.ErrForm},
		{"too many marks", 0, 0, []int{100, 90, 80, 70}, 0, api.ErrForm},
		{"too few marks before one that is too small", 0, 0, []int{0, 90}, 0, api.ErrForm},
		{"too small a mark", 0, 0, []int{100, 90, 49}, 0, api.ErrRange},
		{"too great a mark", 0, 0, []int{101, 90, 80}, 0, api.ErrRange},
		{"a mark below 0", 0, 0, []int{100, -90, 80}, 0, api.ErrRange},
	} {
		if n, e := marks.Seal(samba(), x.matter, x.judge, x.marks); n != x.want || e != x.e {
			t.Error(x.about, n, e)
		}
	}
	s, _ := greatest()
	// 6*101 + 5*1009 + 36*100
	if n, e := marks.Seal(s, 5, 4, slices.Repeat([]int{100}, 8)); n != 9251%997 || e != api.OK {
		t.Error(n, e)
	}
	if n, e := marks.Seal(s, 5, 4, make([]int, 8)); n != 5651%997 || e != api.OK {
		t.Error(n, e)
	}
	for _, x := range told().Opened {
		if n, e := marks.Seal(samba(), x.Matter, x.Judge, x.Marks); n != x.Seal || e != api.OK {
			t.Error(x, n, e)
		}
	}
}

// P5.1: Missing.
func TestMissing(t *testing.T) {
	for _, x := range []struct {
		about string
		n     api.Night
		want  []api.Absence
	}{
		{"the example", before(), []api.Absence{absence(1, 1)}},
		{"a night that is decided", told(), nil},
		{"nothing is known", api.Night{}, []api.Absence{absence(0, 0), absence(0, 1), absence(0, 2), absence(1, 0), absence(1, 1), absence(1, 2)}},
		{"an envelope", api.Night{Opened: []api.Envelope{envelope(1, 0, 50, 50, 50)}}, []api.Absence{absence(0, 0), absence(0, 1), absence(0, 2), absence(1, 1), absence(1, 2)}},
		{"an absence", api.Night{Absent: []api.Absence{absence(0, 1), absence(0, 1)}}, []api.Absence{absence(0, 0), absence(0, 2), absence(1, 0), absence(1, 1), absence(1, 2)}},
		{"fines", api.Night{Opened: told().Opened, Fines: told().Fines}, []api.Absence{absence(1, 2)}},
	} {
		if l, e := marks.Missing(samba(), x.n); !slices.Equal(l, x.want) || e != api.OK {
			t.Error(x.about, l, e)
		}
	}
}

func sameStanding(a, b api.Standing) bool {
	return a.School == b.School && a.Total == b.Total && slices.Equal(a.Points, b.Points)
}

// standing is what a school has.
func standing(school, total int, points ...int) api.Standing {
	return api.Standing{School: school, Total: total, Points: points}
}

// P5.2: Table.
func TestTable(t *testing.T) {
	// one matter with two judges who give these marks
	two := api.Scale{Schools: 2, Matters: 1, Judges: 2, High: 100, Order: []int{0}}
	with := func(change func(s *api.Scale)) api.Scale {
		s := two
		change(&s)
		return s
	}
	four := with(func(s *api.Scale) { s.Judges = 4 })
	three := api.Scale{Schools: 2, Matters: 3, Judges: 1, High: 100, Order: []int{2, 0, 1}}
	opened := func(l ...api.Envelope) api.Night { return api.Night{Opened: l} }
	for _, x := range []struct {
		about string
		s     api.Scale
		n     api.Night
		want  []api.Standing
	}{
		{"the example", samba(), told(), []api.Standing{standing(0, 385, 195, 190), standing(2, 365, 175, 195), standing(1, 365, 195, 170)}},
		{"the other order", changed(func(s *api.Scale) { s.Order = []int{0, 1} }), told(), []api.Standing{standing(0, 385, 195, 190), standing(1, 365, 195, 170), standing(2, 365, 175, 195)}},
		{"no fine", samba(), retold(func(n *api.Night) { n.Fines = nil }), []api.Standing{standing(0, 385, 195, 190), standing(2, 370, 175, 195), standing(1, 365, 195, 170)}},
		{"nothing is dropped", two, opened(envelope(0, 0, 7, 9), envelope(0, 1, 8, 5)), []api.Standing{standing(0, 15, 15), standing(1, 14, 14)}},
		{"the least mark is dropped", with(func(s *api.Scale) { s.Drop = 1 }), opened(envelope(0, 0, 7, 9), envelope(0, 1, 8, 5)), []api.Standing{standing(1, 9, 9), standing(0, 8, 8)}},
		{"one of two least marks is dropped", with(func(s *api.Scale) { s.Drop = 1 }), opened(envelope(0, 0, 7, 3), envelope(0, 1, 7, 4)), []api.Standing{standing(0, 7, 7), standing(1, 4, 4)}},
		{"two of four are dropped", with(func(s *api.Scale) { s.Judges, s.Drop = 4, 2 }), opened(envelope(0, 0, 9, 1), envelope(0, 1, 1, 5), envelope(0, 2, 2, 7), envelope(0, 3, 3, 6)), []api.Standing{standing(1, 13, 13), standing(0, 12, 12)}},
		{"the others' mean is rounded down", with(func(s *api.Scale) { s.Judges = 3 }), api.Night{Opened: []api.Envelope{envelope(0, 0, 7, 9), envelope(0, 2, 8, 5)}, Absent: []api.Absence{absence(0, 1)}}, []api.Standing{standing(0, 22, 22), standing(1, 21, 21)}},
		{"two are absent", four, api.Night{Opened: []api.Envelope{envelope(0, 0, 7, 9), envelope(0, 2, 8, 5)}, Absent: []api.Absence{absence(0, 1), absence(0, 3)}}, []api.Standing{standing(0, 29, 29), standing(1, 28, 28)}},
		{"three are absent", four, api.Night{Opened: []api.Envelope{envelope(0, 2, 8, 5)}, Absent: []api.Absence{absence(0, 1), absence(0, 3), absence(0, 0)}}, []api.Standing{standing(0, 32, 32), standing(1, 20, 20)}},
		{"an absence twice", with(func(s *api.Scale) { s.Judges = 3 }), api.Night{Opened: []api.Envelope{envelope(0, 0, 7, 9), envelope(0, 2, 8, 5)}, Absent: []api.Absence{absence(0, 1), absence(0, 1)}}, []api.Standing{standing(0, 22, 22), standing(1, 21, 21)}},
		{"an envelope twice", two, opened(envelope(0, 0, 7, 9), envelope(0, 1, 8, 5), envelope(0, 0, 7, 9)), []api.Standing{standing(0, 15, 15), standing(1, 14, 14)}},
		{"the mean is not dropped, but counts when the least mark is", with(func(s *api.Scale) { s.Judges, s.Drop = 3, 1 }), api.Night{Opened: []api.Envelope{envelope(0, 0, 10, 9), envelope(0, 2, 1, 9)}, Absent: []api.Absence{absence(0, 1)}}, []api.Standing{standing(1, 18, 18), standing(0, 15, 15)}},
		{"the mean is dropped, too", with(func(s *api.Scale) { s.Judges, s.Drop = 3, 2 }), api.Night{Opened: []api.Envelope{envelope(0, 0, 10, 9), envelope(0, 2, 1, 9)}, Absent: []api.Absence{absence(0, 1)}}, []api.Standing{standing(0, 10, 10), standing(1, 9, 9)}},
		{"a judge is absent of one matter only", samba(), retold(func(n *api.Night) { n.Absent = nil; n.Opened = append(n.Opened, envelope(1, 2, 50, 50, 50)) }), []api.Standing{standing(0, 375, 195, 180), standing(2, 360, 175, 190), standing(1, 355, 195, 160)}},
		{"a greater total with fewer points of the first matter", three, opened(envelope(0, 0, 1, 2), envelope(1, 0, 1, 3), envelope(2, 0, 3, 1)), []api.Standing{standing(1, 6, 2, 3, 1), standing(0, 5, 1, 1, 3)}},
		{"the first matter of the order", three, opened(envelope(0, 0, 9, 1), envelope(1, 0, 1, 1), envelope(2, 0, 1, 9)), []api.Standing{standing(1, 11, 1, 1, 9), standing(0, 11, 9, 1, 1)}},
		{"the second matter of the order", three, opened(envelope(0, 0, 1, 9), envelope(1, 0, 9, 1), envelope(2, 0, 5, 5)), []api.Standing{standing(1, 15, 9, 1, 5), standing(0, 15, 1, 9, 5)}},
		{"the last matter of the order", three, api.Night{Opened: []api.Envelope{envelope(0, 0, 4, 4), envelope(1, 0, 1, 9), envelope(2, 0, 5, 5)}, Fines: []api.Fine{{School: 1, Points: 8}}}, []api.Standing{standing(1, 10, 4, 9, 5), standing(0, 10, 4, 1, 5)}},
		{"the number", three, opened(envelope(0, 0, 4, 4), envelope(1, 0, 1, 1), envelope(2, 0, 5, 5)), []api.Standing{standing(0, 10, 4, 1, 5), standing(1, 10, 4, 1, 5)}},
		{"fines, one behind the other", two, api.Night{Opened: []api.Envelope{envelope(0, 0, 7, 9), envelope(0, 1, 8, 5)}, Fines: []api.Fine{{School: 0, Points: 1}, {School: 1}, {School: 0, Points: 1}}}, []api.Standing{standing(1, 14, 14), standing(0, 13, 15)}},
		{"a total below 0", two, api.Night{Opened: []api.Envelope{envelope(0, 0, 7, 9), envelope(0, 1, 8, 5)}, Fines: []api.Fine{{School: 0, Points: 1000}, {School: 0, Points: 20}}}, []api.Standing{standing(1, 14, 14), standing(0, -1005, 15)}},
		{"one school", api.Scale{Schools: 1, Matters: 1, Judges: 1, High: 9, Order: []int{0}}, opened(envelope(0, 0, 0)), []api.Standing{standing(0, 0, 0)}},
	} {
		if l, e := marks.Table(x.s, x.n); e != api.OK || !slices.EqualFunc(l, x.want, sameStanding) {
			t.Error(x.about, l, e)
		}
	}
	for i, n := range []api.Night{before(), {}, {Opened: told().Opened, Fines: told().Fines}, {Absent: told().Absent}} {
		if l, e := marks.Table(samba(), n); len(l) > 0 || e != api.ErrState {
			t.Error(i, l, e)
		}
	}
}

// P5.3: Totals, Place and Wins.
func TestWhatMayBe(t *testing.T) {
	fined := before()
	fined.Fines[0].Points = 40
	one := api.Scale{Schools: 2, Matters: 1, Judges: 3, Low: 1, High: 9, Order: []int{0}}
	pair := api.Scale{Schools: 2, Matters: 1, Judges: 2, Low: 1, High: 9, Order: []int{0}}
	tied := api.Scale{Schools: 2, Matters: 2, Judges: 1, Low: 1, High: 3, Order: []int{1, 0}}
	for _, x := range []struct {
		about          string
		s              api.Scale
		n              api.Night
		totals, places []api.Span
		wins           []int
	}{
		{"the example", samba(), before(), []api.Span{span(340, 385), span(355, 390), span(345, 370)}, []api.Span{span(1, 3), span(1, 3), span(1, 3)}, []int{open, open, open}},
		{"the example with a fine of 40", samba(), fined, []api.Span{span(340, 385), span(355, 390), span(310, 335)}, []api.Span{span(1, 2), span(1, 2), span(3, 3)}, []int{open, open, never}},
		{"a night that is decided", samba(), told(), []api.Span{span(385, 385), span(365, 365), span(365, 365)}, []api.Span{span(1, 1), span(3, 3), span(2, 2)}, []int{sure, never, never}},
		{"nothing is known", samba(), api.Night{}, []api.Span{span(200, 400), span(200, 400), span(200, 400)}, []api.Span{span(1, 3), span(1, 3), span(1, 3)}, []int{open, open, open}},
		{"one school", api.Scale{Schools: 1, Matters: 1, Judges: 1, High: 9, Order: []int{0}}, api.Night{}, []api.Span{span(0, 9)}, []api.Span{span(1, 1)}, []int{sure}},
		{"only one mark", api.Scale{Schools: 2, Matters: 1, Judges: 2, Low: 4, High: 4, Order: []int{0}}, api.Night{}, []api.Span{span(8, 8), span(8, 8)}, []api.Span{span(1, 1), span(2, 2)}, []int{sure, never}},
		{"a sealed mark counts in a mean", one, api.Night{Opened: []api.Envelope{envelope(0, 0, 4, 5)}, Absent: []api.Absence{absence(0, 2)}}, []api.Span{span(7, 19), span(9, 21)}, []api.Span{span(1, 2), span(1, 2)}, []int{open, open}},
		{"the totals meet, and more points before the fine decide", one, api.Night{Fines: []api.Fine{{School: 1, Points: 24}}}, []api.Span{span(3, 27), span(-21, 3)}, []api.Span{span(1, 2), span(1, 2)}, []int{open, open}},
		{"the totals meet, and more points before the fine decide, the other way", one, api.Night{Fines: []api.Fine{{Points: 24}}}, []api.Span{span(-21, 3), span(3, 27)}, []api.Span{span(1, 2), span(1, 2)}, []int{open, open}},
		{"the totals meet, and the number decides", pair, api.Night{Opened: []api.Envelope{envelope(0, 1, 9, 1)}}, []api.Span{span(10, 18), span(2, 10)}, []api.Span{span(1, 1), span(2, 2)}, []int{sure, never}},
		{"the totals meet, and the number decides, the other way", pair, api.Night{Opened: []api.Envelope{envelope(0, 1, 1, 9)}}, []api.Span{span(2, 10), span(10, 18)}, []api.Span{span(1, 2), span(1, 2)}, []int{open, open}},
		{"the totals do not meet", one, api.Night{Fines: []api.Fine{{Points: 25}}}, []api.Span{span(-22, 2), span(3, 27)}, []api.Span{span(2, 2), span(1, 1)}, []int{never, sure}},
		{"the totals meet, and the first matter of the order decides", tied, api.Night{Opened: []api.Envelope{envelope(1, 0, 1, 3)}}, []api.Span{span(2, 4), span(4, 6)}, []api.Span{span(2, 2), span(1, 1)}, []int{never, sure}},
		{"the totals meet, and the first matter of another order decides", api.Scale{Schools: 2, Matters: 2, Judges: 1, Low: 1, High: 3, Order: []int{0, 1}}, api.Night{Opened: []api.Envelope{envelope(1, 0, 1, 3)}}, []api.Span{span(2, 4), span(4, 6)}, []api.Span{span(1, 2), span(1, 2)}, []int{open, open}},
		{"a mark that is dropped anyway", api.Scale{Schools: 2, Matters: 1, Judges: 2, Drop: 1, Low: 1, High: 9, Order: []int{0}}, api.Night{Opened: []api.Envelope{envelope(0, 1, 9, 5)}}, []api.Span{span(9, 9), span(5, 9)}, []api.Span{span(1, 1), span(2, 2)}, []int{sure, never}},
	} {
		totals, e := marks.Totals(x.s, x.n)
		if e != api.OK || !slices.Equal(totals, x.totals) {
			t.Error(x.about, totals, e)
		}
		for school := range x.s.Schools {
			place, e := marks.Place(x.s, x.n, school)
			verdict, e2 := marks.Wins(x.s, x.n, school)
			if place != x.places[school] || verdict != x.wins[school] || e+e2 != api.OK {
				t.Error(x.about, school, place, verdict, e, e2)
			}
		}
		for _, school := range []int{-1, x.s.Schools} {
			place, e := marks.Place(x.s, x.n, school)
			verdict, e2 := marks.Wins(x.s, x.n, school)
			if place != span(0, 0) || verdict != 0 || e != api.ErrMissing || e2 != api.ErrMissing {
				t.Error(x.about, school, place, verdict, e, e2)
			}
		}
	}
}

// P5.4: Move.
func TestMove(t *testing.T) {
	three := func() [][]int { return [][]int{{1, 2, 3}, {4, 5, 6}, {7, 8}} }
	eight := []int{1, 2, 3, 4, 5, 6, 7, 8}
	for _, x := range []struct {
		about   string
		leagues [][]int
		n       int
		want    [][]int
		e       api.Errno
	}{
		{"the first example", three(), 1, [][]int{{1, 2, 4}, {3, 5, 7}, {6, 8}}, api.OK},
		{"the second example", three(), 2, nil, api.ErrShort},
		{"nobody moves", three(), 0, three(), api.OK},
		{"no leagues", nil, 8, nil, api.OK},
		{"no leagues, not nil", [][]int{}, 0, nil, api.OK},
		{"one league", [][]int{{5, 3}}, 8, [][]int{{5, 3}}, api.OK},
		{"one league without schools", [][]int{nil}, 8, [][]int{nil}, api.OK},
		{"all move", [][]int{{1, 2}, {3, 4}}, 2, [][]int{{3, 4}, {1, 2}}, api.OK},
		{"all move, up and down", [][]int{{1, 2}, {3, 4, 5, 6}, {7, 8}}, 2, [][]int{{3, 4}, {1, 2, 7, 8}, {5, 6}}, api.OK},
		{"some move, in their order", [][]int{{9, 8, 7, 6}, {5, 4, 3, 2, 1}, {-1, -2, -3}}, 2, [][]int{{9, 8, 5, 4}, {7, 6, 3, -1, -2}, {2, 1, -3}}, api.OK},
		{"as many move as may", [][]int{eight, {-1, -2, -3, -4, -5, -6, -7, -8}}, 8, [][]int{{-1, -2, -3, -4, -5, -6, -7, -8}, eight}, api.OK},
		{"leagues without schools", make([][]int, 6), 0, make([][]int, 6), api.OK},
		{"as many leagues as may be", [][]int{{1}, {2, 3}, {4, 5}, {6, 7}, {8, 9}, {10}}, 1, [][]int{{2}, {1, 4}, {3, 6}, {5, 8}, {7, 10}, {9}}, api.OK},
		{"too many leagues", make([][]int, 7), 0, nil, api.ErrFull},
		{"too many leagues before who moves", make([][]int, 7), -1, nil, api.ErrFull},
		{"fewer than none move", three(), -1, nil, api.ErrRange},
		{"too many move", three(), 9, nil, api.ErrRange},
		{"too many move, of no leagues", nil, 9, nil, api.ErrRange},
		{"too many move before what leagues are", [][]int{{1, 1}}, 9, nil, api.ErrRange},
		{"as many schools as may be", [][]int{eight}, 0, [][]int{eight}, api.OK},
		{"too many schools", [][]int{append(slices.Clone(eight), 9)}, 0, nil, api.ErrFull},
		{"too many schools before one twice", [][]int{append(slices.Clone(eight), 8)}, 0, nil, api.ErrFull},
		{"a school twice", [][]int{{1, 2, 1}}, 0, nil, api.ErrExists},
		{"a school in two leagues", [][]int{{1, 2}, {3}, {1}}, 0, nil, api.ErrExists},
		{"a school twice before too few", [][]int{{1, 1}, {3}}, 3, nil, api.ErrExists},
		{"too few in the first league", [][]int{{1}, {2, 3}}, 2, nil, api.ErrShort},
		{"too few in the last league", [][]int{{1, 2}, {3}}, 2, nil, api.ErrShort},
		{"just enough between two leagues", [][]int{{1, 2}, {3, 4, 5, 6}, {7, 8}}, 2, [][]int{{3, 4}, {1, 2, 7, 8}, {5, 6}}, api.OK},
		{"too few between two leagues", [][]int{{1, 2}, {3, 4, 5}, {7, 8}}, 2, nil, api.ErrShort},
		{"one league before the next one", [][]int{{1}, {2, 2}}, 2, nil, api.ErrShort},
		{"one league before the next one, the other way", [][]int{{1, 1}, {2}}, 2, nil, api.ErrExists},
		{"one league before too many in the next one", [][]int{{1}, append(slices.Clone(eight), 9)}, 2, nil, api.ErrShort},
	} {
		if l, e := marks.Move(x.leagues, x.n); e != x.e || !slices.EqualFunc(l, x.want, slices.Equal[[]int]) {
			t.Error(x.about, l, e)
		}
	}
}
