package night_test

import (
	"slices"
	"strings"
	"testing"

	"bateria/api"
	"bateria/marks"
	"bateria/night"
)

var checks = []struct {
	about  string
	change func(x *api.Director)
	want   api.Errno
}{
	{"the example", func(x *api.Director) {}, api.OK},
	{"nothing", func(x *api.Director) { *x = api.Director{} }, api.ErrRange},
	// each part
	{"the school", func(x *api.Director) { x.School.Wings = nil }, api.ErrShort},
	{"the last wing", func(x *api.Director) { x.School.Wings[2].Name = "front" }, api.ErrExists},
	{"a rule below 0", func(x *api.Director) { x.Rules.Least = -1 }, api.ErrRange},
	{"the greatest rules", func(x *api.Director) { x.Rules = api.Rules{Least: 100000, Most: 100000, Gap: 20000} }, api.OK},
	{"the least rules", func(x *api.Director) { x.Rules = api.Rules{} }, api.OK},
	{"a rule too great", func(x *api.Director) { x.Rules.Most = 100001 }, api.ErrRange},
	{"a gap too wide", func(x *api.Director) { x.Rules.Gap = 20001 }, api.ErrRange},
	{"the order of rules", func(x *api.Director) { x.Rules.Least = 61 }, api.ErrOrder},
	{"the scale", func(x *api.Director) { x.Scale.Order = []int{1, 1} }, api.ErrExists},
	{"the city", func(x *api.Director) { x.City.Break = 121 }, api.ErrRange},
	{"the town", func(x *api.Director) { x.City.Town.Streets[2].A = 3 }, api.ErrMissing},
	{"the sleep", func(x *api.Director) { x.City.Sleep = x.City.Sleep[1:] }, api.ErrForm},
	{"the funds", func(x *api.Director) { x.Funds[2].Uses = []int{1, 1} }, api.ErrOrder},
	{"too many funds", func(x *api.Director) { x.Funds = make([]api.Fund, 9) }, api.ErrFull},
	{"no funds", func(x *api.Director) { x.Funds = nil }, api.OK},
	{"the first date", func(x *api.Director) { x.Date = 0 }, api.OK},
	{"the last date", func(x *api.Director) { x.Date = 3650 }, api.OK},
	{"a date below 0", func(x *api.Director) { x.Date = -1 }, api.ErrRange},
	{"a date too late", func(x *api.Director) { x.Date = 3651 }, api.ErrRange},
	// their order
	{"the school before the rules", func(x *api.Director) { x.School.Wings, x.Rules.Least = nil, -1 }, api.ErrShort},
	{"the last wing before the rules", func(x *api.Director) { x.School.Wings[2].Name, x.Rules.Least = "Back", -1 }, api.ErrForm},
	{"the rules before the scale", func(x *api.Director) { x.Rules.Least, x.Scale.Order = 61, nil }, api.ErrOrder},
	{"the scale before the city", func(x *api.Director) { x.Scale.Low, x.City.Sleep = 101, nil }, api.ErrRange},
	{"the city before the funds", func(x *api.Director) { x.City.Sleep, x.Funds = nil, make([]api.Fund, 9) }, api.ErrForm},
	{"the funds before the date", func(x *api.Director) { x.Funds, x.Date = make([]api.Fund, 9), -1 }, api.ErrFull},
	// schools whose last wings cannot start any more
	{"a school that is too slow", func(x *api.Director) { x.School = slow() }, api.OK},
	{"a school that is too slow, with a rule below 0", func(x *api.Director) { x.School, x.Rules.Gap = slow(), -1 }, api.ErrRange},
	{"a school that is too slow, and the order of rules", func(x *api.Director) { x.School, x.Rules.Least = slow(), 61 }, api.ErrOrder},
}

// slow is a school of which only the first five wings can start in time.
func slow() api.School {
	s := api.School{Route: 100000}
	for _, name := range []string{"a", "b", "c", "d", "e", "f"} {
		s.Wings = append(s.Wings, api.Wing{Name: name, Length: 5000, Pace: span(1, 1)})
	}
	return s
}

// P10.1: Check, and the errors that the other functions return first; R3: the other results are zero values then.
func TestCheck(t *testing.T) {
	for _, x := range checks {
		director := changed(x.change)
		if e := night.Check(director); e != x.want {
			t.Error(x.about, e)
		}
		for _, c := range []struct {
			script string
			want   api.Errno
		}{{"", api.OK}, {"wing\n", api.OK}, {"wing", api.ErrForm}, {strings.Repeat("\n", 101), api.ErrFull}, {strings.Repeat("x", 8001), api.ErrLong}} {
			want := x.want
			if want == api.OK {
				want = c.want
			}
			askAll(t, director, c.script, want)
		}
	}
}

// askAll asks for all that a script has, and looks for this error, and for results beside an error.
func askAll(t *testing.T, x api.Director, script string, want api.Errno) {
	t.Helper()
	text, e := night.Run(x, script)
	d, e2 := night.Keep(x, script)
	told, e3 := night.Report(x, script)
	if e != want || e2 != want || e3 != want {
		t.Errorf("%.50q %v %v %v %v", script, e, e2, e3, want)
	}
	if want != api.OK && (text != "" || !sameDesk(d, api.Desk{}) || told != "") {
		t.Errorf("%.50q %q %v %q", script, text, d, told)
	}
	if want == api.OK && (strings.Count(text, "\n") != strings.Count(script, "\n") || !strings.HasSuffix(told, "end\n")) {
		t.Errorf("%.50q %q %v %q", script, text, d, told)
	}
}

// P10.1: what is wrong with a script.
func TestScripts(t *testing.T) {
	line := "at 0" + strings.Repeat(" 0", 37) + "\n" // 79 bytes
	for _, x := range []struct {
		about, script string
		want          api.Errno
	}{
		{"nothing", "", api.OK},
		{"an empty line", "\n", api.OK},
		{"a line", "wing\n", api.OK},
		{"a line that is not ended", "wing", api.ErrForm},
		{"the second line is not ended", "wing\nwing", api.ErrForm},
		{"a blank behind the last line", "wing\n ", api.ErrForm},
		{"as many lines as may be", strings.Repeat("\n", 100), api.OK},
		{"a line too many", strings.Repeat("\n", 101), api.ErrFull},
		{"a line too many that is not ended", strings.Repeat("\n", 100) + "x", api.ErrForm},
		{"two lines too many, one of which is not ended", strings.Repeat("\n", 101) + "x", api.ErrForm},
		{"as long as may be", strings.Repeat("x", 7999) + "\n", api.OK},
		{"as long as may be, and not ended", strings.Repeat("x", 8000), api.ErrForm},
		{"a byte too long", strings.Repeat("x", 8000) + "\n", api.ErrLong},
		{"a byte too long, and not ended", strings.Repeat("x", 8001), api.ErrLong},
		{"a byte too long, with too many lines", strings.Repeat("\n", 8001), api.ErrLong},
		{"as long as may be, with too many lines", strings.Repeat("\n", 8000), api.ErrFull},
		{"as many lines, as long as may be", strings.Repeat(line, 99) + strings.Repeat("x", 8000-99*79-1) + "\n", api.OK},
	} {
		t.Run(x.about, func(t *testing.T) { askAll(t, avenue(), x.script, x.want) })
	}
}

// A dialogue is lines and the replies to them, each list separated by semicolons.
type dialogue struct {
	about          string
	x              api.Director
	lines, replies string
}

func (x dialogue) holds(t *testing.T) {
	t.Helper()
	lines := strings.Split(x.lines, "; ")
	c := clerk{x: x.x}
	var byModel []string
	for _, line := range lines {
		byModel = append(byModel, c.reply(line))
	}
	if replies := strings.Join(run(t, x.x, lines), "; "); replies != x.replies {
		t.Errorf("%s: %s", x.about, replies)
	}
	if replies := strings.Join(byModel, "; "); replies != x.replies {
		t.Errorf("the model: %s: %s", x.about, replies)
	}
	if !sameDesk(keep(t, x.x, lines), c.d) || report(t, x.x, lines) != told(x.x, c.d) {
		t.Error(x.about, keep(t, x.x, lines), c.d)
	}
}

// many are so many equal things, separated by semicolons.
func many(n int, thing string) string {
	return strings.Join(slices.Repeat([]string{thing}, n), "; ")
}

// The examples of the chapter.
func TestExamples(t *testing.T) {
	for _, x := range []dialogue{
		{"wings", avenue(), "at 100; wing; at 102; wing; at 103; wing; place 1; gap 1; gap 0; at 110; place 0", "ok; ok; ok; error 12; ok; ok; 0 0; 20 50; error 7; ok; 400 500"},
		{"lasting", avenue(), "wing; at 3; wing; lasts; at 8; wing; lasts; wing; place 3", "ok; ok; ok; error 11; ok; ok; sure 30 45; error 11; error 7"},
		{"marks", avenue(), "open 0 0 633 100 90 80; open 0 1 655 90 100 81; absent 1 2; places; table; winner; fine 2 1000; places; winner", "ok; error 14; ok; 1 3 1 3 1 3; error 11; open 0 1 2; ok; 1 2 1 2 3 3; open 0 1"},
		{"bands", avenue(), "band 0 100 110 20 50 0 1; band 2 120 120 30 40 1; at 7500; heard 1; heard 3; sleep 0; band 0 124 124 1 1", "ok; error 10; ok; 0; error 7; 130 590; error 12"},
		{"money", avenue(), "bill 1 600; bill 0 900; left 0; trace 0; bill 1 301; bill 8 1; trace 2", "ok; ok; 0 300; 400 200 0; error 4; error 2; error 7"},
	} {
		x.holds(t)
	}
	if text := report(t, avenue(), []string{"wing", "at 5"}); text != "at 5\nwing front 0 200 250\nschool 0 200 400\nschool 1 200 400\nschool 2 200 400\nend\n" {
		t.Errorf("%q", text)
	}
}

// Terms: each word takes as many numbers as are said, and a line that is not as said is refused before all else.
func TestNumbers(t *testing.T) {
	for word, many := range takes {
		for n := range 20 {
			line := word + strings.Repeat(" 9", n) // so many marks of a matter that is not are no error of their own
			reply := run(t, avenue(), []string{line})[0]
			if fits := n >= many[0] && n <= many[1]; (reply == "error 1") == fits {
				t.Error(line, reply)
			}
			for _, wrong := range []string{line + " ", " " + line, line + "  0", line + " x", line + " 00", line + " -0", line + " +0", line + " 0.", line + " 12345678", line + " \u0663", line + "\t0", line + "\r", "x" + line, line + "x", strings.ToUpper(line), strings.Replace(line, word, word[1:], 1)} {
				if reply := run(t, avenue(), []string{wrong})[0]; reply != "error 1" {
					t.Errorf("%q %s", wrong, reply)
				}
			}
		}
	}
}

// Terms: lines that are built as they have to be, and such that are not.
func TestForms(t *testing.T) {
	for _, x := range []dialogue{
		{"no word", avenue(), "x", "error 1"},
		{"blanks alone", avenue(), " ;  ;   ", "error 1; error 1; error 1"},
		{"a number alone", avenue(), "7; 0 0", "error 1; error 1"},
		{"a number of 7 digits", avenue(), "at 1000000; place 9999999; bill 9999999 9999999", "error 2; error 7; error 2"},
		{"a number of 8 digits", avenue(), "at 10000000; place 10000000; bill 10000000 1", "error 1; error 1; error 1"},
		{"needless zeros", avenue(), "at 00; at 07; at 0000000; at 0", "error 1; error 1; error 1; ok"},
		{"signs", avenue(), "at -0; at -1; at +1; at 1e3; at 0x1; at 1_0; at 1.", many(7, "error 1")},
		{"two blanks", avenue(), "fine  0 1; fine 0  1; fine 0 1 ;  fine 0 1; fine 0 1", "error 1; error 1; error 1; error 1; ok"},
		{"other white space", avenue(), "wing\t; wing\r; fine\t0 1; fine 0\t1; fine 0\u00a01", many(5, "error 1")},
		{"other words", avenue(), "Wing; wings; win; open; band; end; error 1; ok", many(8, "error 1")},
		{"the form before the state", avenue(), "wing 0; wing; lasts; lasts 0; place 2 0", "error 1; ok; error 11; error 1; error 1"},
		{"too few numbers", avenue(), "at; open 0 0; absent 0; fine 0; band 0 1 2 3; heard; sleep; bill 0; left; trace; place; gap", many(12, "error 1")},
		{"too many numbers", avenue(), "at 0 0; wing 0; absent 0 0 0; fine 0 0 0; heard 0 0; sleep 0 0; bill 0 0 0; left 0 0; trace 0 0; place 0 0; gap 0 0; lasts 0; places 0; winner 0; table 0", many(15, "error 1")},
		{"no marks, and no path", avenue(), "open 0 0 122; band 9 0 0 1 1; band 0 0 0 1 1", "error 1; error 7; ok"},
	} {
		x.holds(t)
	}
	for _, line := range []string{"", "\x00", "wing\x00", "\xff", "at \xff", "\u00e9"} {
		if reply := run(t, avenue(), []string{line, "winner"}); !slices.Equal(reply, []string{"error 1", "open 0 1 2"}) {
			t.Errorf("%q %v", line, reply)
		}
	}
}

// Terms: "at".
func TestAt(t *testing.T) {
	for _, x := range []dialogue{
		{"on and on", avenue(), "at 0; at 5; at 5; at 4; at 6; at 5", "ok; ok; ok; error 2; ok; error 2"},
		{"the last second", avenue(), "at 43200; at 43199; at 43200; at 43199; at 43198", "error 2; ok; error 2; ok; error 2"},
	} {
		x.holds(t)
	}
	for lines, want := range map[string]int{"": 0, "at 5": 5, "at 5; at 4": 5, "at 5; at 43200": 5, "at 43199; wing; at 1": 43199} {
		if d := keep(t, avenue(), strings.Split(lines, "; ")); d.Second != want {
			t.Error(lines, d)
		}
	}
}

// keeping is avenue with another time that the parade may last.
func keeping(least, most int) api.Director {
	return changed(func(x *api.Director) { x.Rules = api.Rules{Least: least, Most: most} })
}

// Terms: "wing", "place", "gap" and "lasts".
func TestWings(t *testing.T) {
	quick := changed(func(x *api.Director) { x.School.Wings = x.School.Wings[:2]; x.Rules = api.Rules{Least: 26, Most: 33} })
	tardy := changed(func(x *api.Director) { x.School = slow() })
	for _, x := range []dialogue{
		// starts
		{"too early by a second", avenue(), "at 7; wing; at 9; wing; at 10; wing; at 14; wing; at 15; wing", "ok; ok; ok; error 12; ok; ok; ok; error 12; ok; ok"},
		{"at once", avenue(), "wing; wing", "ok; error 12"},
		{"later than could be", avenue(), "wing; at 50; wing; at 53; wing; at 54; wing", "ok; ok; ok; ok; error 12; ok; ok"},
		{"all started", avenue(), "wing; at 3; wing; at 8; wing; wing; at 30000; wing", "ok; ok; ok; ok; ok; error 11; ok; error 11"},
		{"the last second of starts", avenue(), "at 10; wing; at 20010; wing", "ok; ok; ok; ok"},
		{"behind the last second of starts", avenue(), "at 10; wing; at 20011; wing", "ok; ok; ok; error 2"},
		{"the first wing in the last second of the night", avenue(), "at 43199; wing; place 0; wing", "ok; ok; 0 0; error 12"},
		{"wings that are too slow", tardy, "wing; at 5000; wing; at 10000; wing; at 15000; wing; at 20000; wing; wing; at 20001; wing; at 25000; wing; lasts", many(9, "ok") + "; error 12; ok; error 2; ok; error 2; error 11"},
		// places
		{"nobody started", avenue(), "place 0; gap 0; gap 1; lasts", "error 7; error 7; error 7; error 11"},
		{"the next wing has not started", avenue(), "wing; place 0; place 1; gap 1; place 3; place 9999999", "ok; 0 0; error 7; error 7; error 7; error 7"},
		{"on the avenue", avenue(), "at 1000; wing; at 1003; wing; at 1008; wing; at 1010; place 0; place 1; place 2", "ok; ok; ok; ok; ok; ok; ok; 400 500; 300 400; 60 100"},
		{"behind the finish", avenue(), "wing; at 43199; place 0", "ok; ok; 1727960 2159950"},
		// gaps
		{"gaps", avenue(), "at 100; wing; at 103; wing; gap 1; at 105; gap 1; gap 2; at 108; wing; at 120; gap 2; gap 0; gap 3", "ok; ok; ok; ok; 20 50; ok; 0 50; error 7; ok; ok; ok; 0 340; error 7; error 7"},
		// lasting
		{"not all started", avenue(), "lasts; wing; lasts; at 3; wing; lasts; at 8; lasts; wing; lasts", "error 11; ok; error 11; ok; ok; error 11; ok; error 11; ok; sure 30 45"},
		{"the verdict stays", avenue(), "at 500; wing; at 503; wing; at 508; wing; lasts; at 9999; lasts", "ok; ok; ok; ok; ok; ok; sure 30 45; ok; sure 30 45"},
		{"later starts", avenue(), "wing; at 4; wing; at 10; wing; lasts", "ok; ok; ok; ok; ok; sure 32 47"},
		{"just in time", quick, "wing; at 3; wing; lasts", "ok; ok; ok; sure 26 33"},
		{"never", keeping(46, 50), "wing; at 3; wing; at 8; wing; lasts", "ok; ok; ok; ok; ok; never 30 45"},
		{"never, as too late", keeping(0, 29), "wing; at 3; wing; at 8; wing; lasts", "ok; ok; ok; ok; ok; never 30 45"},
		{"perhaps in time", keeping(45, 50), "wing; at 3; wing; at 8; wing; lasts", "ok; ok; ok; ok; ok; open 30 45"},
		{"perhaps too short", keeping(31, 45), "wing; at 3; wing; at 8; wing; lasts", "ok; ok; ok; ok; ok; open 30 45"},
		{"perhaps too long", keeping(30, 44), "wing; at 3; wing; at 8; wing; lasts", "ok; ok; ok; ok; ok; open 30 45"},
		{"just surely", keeping(30, 45), "wing; at 3; wing; at 8; wing; lasts", "ok; ok; ok; ok; ok; sure 30 45"},
	} {
		x.holds(t)
	}
}

// envelope is a line that opens an envelope with its seal.
func envelope(s api.Scale, matter, judge int, list ...int) string {
	seal, _ := marks.Seal(s, matter, judge, list)
	return "open " + said(append([]int{matter, judge, seal}, list...)...)
}

// Terms: "open", "absent", "fine", "places", "winner" and "table".
func TestMarks(t *testing.T) {
	one := changed(func(x *api.Director) {
		x.Scale = api.Scale{Schools: 1, Matters: 1, Judges: 1, High: 9, Order: []int{0}}
	})
	two := changed(func(x *api.Director) {
		x.Scale = api.Scale{Schools: 2, Matters: 1, Judges: 2, High: 9, Order: []int{0}}
	})
	const decided = "open 0 0 633 100 90 80; open 0 1 655 90 100 80; open 0 2 707 95 95 95; open 1 0 774 80 90 100; absent 1 2; fine 2 5"
	for _, x := range []dialogue{
		{"a night is decided", avenue(), decided + "; winner; places; table; open 1 1 736 100 70 90; winner; places; table", "ok; ok; ok; ok; ok; ok; open 0 1 2; 1 3 1 3 1 3; error 11; ok; sure 0; 1 1 3 3 2 2; 0 2 1"},
		{"a fine changes the winner", avenue(), decided + "; open 1 1 736 100 70 90; fine 0 21; winner; table; places", "ok; ok; ok; ok; ok; ok; ok; ok; sure 2; 2 1 0; 3 3 2 2 1 1"},
		{"one may not win", avenue(), decided + "; fine 2 35; places; winner", "ok; ok; ok; ok; ok; ok; ok; 1 2 1 2 3 3; open 0 1"},
		{"surely, before it is decided", avenue(), "fine 1 1000; fine 2 1000; winner; table; places", "ok; ok; sure 0; error 11; 1 1 2 3 2 3"},
		{"one school", one, "winner; places; table; open 0 0 122 9; winner; places; table", "sure 0; 1 1; error 11; ok; sure 0; 1 1; 0"},
		// envelopes
		{"no such matter, and no such judge", avenue(), "open 2 0 0 50 50 50; open 0 3 0 50 50 50; open 9999999 0 0 50 50 50", "error 7; error 7; error 7"},
		{"no such matter before the number of marks", avenue(), "open 2 0 0", "error 7"},
		{"the number of marks", avenue(), "open 0 0 633 100 90; open 0 0 633 100 90 80 0; open 0 0 633", "error 1; error 1; error 1"},
		{"the number of marks before them", avenue(), "open 0 0 633 101 90", "error 1"},
		{"marks", avenue(), "open 0 0 0 49 90 80; open 0 0 0 100 90 101; " + envelope(avenue().Scale, 0, 0, 50, 100, 50), "error 2; error 2; ok"},
		{"marks before the seal", avenue(), "open 0 0 633 100 90 49", "error 2"},
		{"seals", avenue(), "open 0 0 632 100 90 80; open 0 0 634 100 90 80; open 0 1 633 100 90 80; open 0 0 1630 100 90 80; open 0 0 633 100 90 80", "error 14; error 14; error 14; error 14; ok"},
		{"other marks", avenue(), "open 0 0 633 100 90 80; " + envelope(avenue().Scale, 0, 0, 100, 90, 81) + "; open 0 0 633 99 90 80", "ok; error 10; error 14"},
		{"an envelope twice", avenue(), "open 0 0 633 100 90 80; open 0 0 633 100 90 80; places", "ok; ok; 1 3 1 3 1 3"},
		{"an envelope of a judge who is absent", avenue(), "absent 0 0; open 0 0 633 100 90 80; open 0 0 632 100 90 80", "ok; error 10; error 14"},
		{"as many envelopes as may be", avenue(), many(60, "open 0 0 633 100 90 80") + "; open 0 0 633 100 90 80; open 9 0 0; absent 0 1; fine 0 1", many(60, "ok") + "; error 5; error 5; ok; ok"},
		// absences
		{"no such absence", avenue(), "absent 2 0; absent 0 3; absent 9999999 9999999", "error 7; error 7; error 7"},
		{"the absence of a judge of whom there is an envelope", avenue(), "open 0 0 633 100 90 80; absent 0 0; absent 0 1", "ok; error 10; ok"},
		{"all judges of a matter are absent", avenue(), "absent 0 0; absent 0 1; absent 0 2; absent 1 2; absent 0 1", "ok; ok; error 4; ok; ok"},
		{"the only judge is absent", one, "absent 0 0; open 0 0 122 9", "error 4; ok"},
		{"as many absences as may be", avenue(), many(60, "absent 0 0") + "; absent 0 1; absent 9 0; open 0 1 655 90 100 80; fine 0 1", many(60, "ok") + "; error 5; error 5; ok; ok"},
		{"a mean", two, "absent 0 0; " + envelope(two.Scale, 0, 1, 9, 8) + "; table; winner", "ok; ok; 0 1; sure 0"},
		// fines
		{"no such fine", avenue(), "fine 3 0; fine 0 1001; fine 3 1001; fine 2 1000; fine 2 0", "error 7; error 2; error 7; ok; ok"},
		{"as many fines as may be", avenue(), many(10, "fine 0 100") + "; fine 0 1; fine 9 0; absent 0 0; winner", many(10, "ok") + "; error 5; error 5; ok; open 1 2"},
		{"ties go by numbers", two, envelope(two.Scale, 0, 0, 5, 5) + "; " + envelope(two.Scale, 0, 1, 5, 5) + "; table; fine 0 1; table; fine 1 1; table", "ok; ok; 0 1; ok; 1 0; ok; 0 1"},
	} {
		x.holds(t)
	}
}

// Terms: "band", "heard" and "sleep".
func TestBands(t *testing.T) {
	still := changed(func(x *api.Director) { x.City.Sleep, x.City.Break = []int{0, 0, 0}, 0 })
	for _, x := range []dialogue{
		// the errors of a band, in their order
		{"no such square", avenue(), "band 3 0 0 1 1; band 9999999 0 0 1 1; band 3 0 0 1 1 9", "error 7; error 7; error 7"},
		{"a path", avenue(), "band 0 0 0 1 1 3; band 0 0 0 1 1 1; band 0 0 0 1 1 0 0 0 0 0 0 0 0 0 0 0 0 0; band 0 0 0 1 1 0 1 2", "error 7; error 1; error 5; ok"},
		{"numbers", avenue(), "band 0 721 721 1 1; band 0 2 1 1 1; band 0 0 31 1 1; band 0 0 0 0 1; band 0 0 0 121 1; band 0 0 0 1 1000001; band 0 720 720 1 1; band 0 719 719 1 1", "error 2; error 9; error 2; error 2; error 2; error 2; error 12; ok"},
		{"a band before the minute", avenue(), "at 6000; band 0 99 99 0 1; band 0 99 99 1 1 1; band 0 99 99 1 200; band 0 100 100 1 200; band 0 100 100 1 1", "ok; error 2; error 1; error 12; error 13; ok"},
		{"the minute", avenue(), "at 59; band 2 0 0 1 1; at 7499; band 1 124 124 1 1; at 7500; band 2 124 124 1 1; band 2 125 125 1 1", "ok; ok; ok; ok; ok; error 12; ok"},
		{"the first minute of the start counts", avenue(), "at 7500; band 2 124 130 1 1; band 2 125 130 1 1", "ok; error 12; ok"},
		// what is granted
		{"the example of layer 7", avenue(), "band 0 100 110 20 50 0 1; band 2 120 120 30 40 1; band 1 300 300 10 90; band 0 650 650 10 1; band 2 50 50 30 40 1", "ok; error 10; error 13; error 11; ok"},
		{"a clash before the room, and this before the sleep", avenue(), "band 0 100 100 20 50; band 0 120 120 1 200; band 0 400 400 1 200; band 0 400 400 1 1", "ok; error 10; error 13; error 11"},
		{"too late before a clash", avenue(), "band 0 100 100 20 50; at 6060; band 0 100 100 1 1; band 0 101 101 1 1", "ok; ok; error 12; error 10"},
		{"the break", avenue(), "band 2 100 100 20 1; band 2 124 124 1 1; band 2 125 125 1 1", "ok; error 10; ok"},
		{"without a break", still, "band 2 100 100 20 1; band 2 119 119 1 1; band 2 120 120 1 1; heard 2; at 7140; heard 2; at 7200; heard 2", "ok; error 10; ok; none; ok; 0; ok; 1"},
		{"what is refused does not cross", avenue(), "band 2 0 0 20 51; band 2 10 10 20 50; heard 2; band 2 0 0 5 50; heard 2", "error 13; ok; none; ok; 1"},
		{"as many bands as may be", still, "band 0 0 0 1 1; band 0 1 1 1 1; band 0 2 2 1 1; band 0 3 3 1 1; band 0 4 4 1 1; band 0 5 5 1 1; band 0 6 6 1 1; band 0 7 7 1 1; band 0 8 8 1 1; band 0 9 9 1 1; band 0 10 10 1 1; band 9 10 10 1 1; at 540; heard 0", many(10, "ok") + "; error 5; error 5; ok; 9"},
		// where they are heard
		{"no bands", avenue(), "heard 0; heard 2; heard 3; sleep 0; sleep 3", "none; none; error 7; 0 720; error 7"},
		{"from the first minute in which it may be there", avenue(), "band 0 100 110 20 50 0; at 5999; heard 0; at 6000; heard 0; at 7199; heard 1; at 7200; heard 0; heard 1; at 7799; heard 0; at 7800; heard 0; heard 1; at 8999; heard 1; at 9000; heard 1", "ok; ok; none; ok; 0; ok; none; ok; 0; 0; ok; 0; ok; none; 0; ok; 0; ok; none"},
		{"two bands", still, "band 2 0 20 10 1; band 2 45 45 5 1; band 2 30 30 5 1; at 1799; heard 2; at 1800; heard 2", "ok; ok; ok; ok; 0; ok; 2"},
		{"two bands in two squares", still, "band 0 10 20 10 1 0; band 2 10 20 10 1; band 0 90 90 10 1; at 1200; heard 0; heard 1; heard 2", "ok; ok; ok; ok; 0; 0; 1"},
		{"two bands that may be in one square", still, "band 0 10 20 10 1; band 0 30 40 10 1; at 1799; heard 0; at 1800; heard 0", "ok; ok; ok; 0; ok; 1"},
		{"the last minute", avenue(), "band 2 719 719 1 1; at 43139; heard 2; at 43140; heard 2; at 43199; heard 2", "ok; ok; none; ok; 0; ok; 0"},
		// sleep
		{"sleep", avenue(), "sleep 0; band 0 100 110 20 50 0 1; sleep 0; sleep 1; sleep 2; sleep 3", "0 720; ok; 130 590; 150 570; 170 550; error 7"},
		{"the first one of two", still, "band 2 360 360 1 1; sleep 2; band 2 719 719 1 1; sleep 2", "ok; 0 360; ok; 0 360"},
		{"the minute does not matter", avenue(), "band 2 0 0 10 1; at 43199; sleep 2", "ok; ok; 10 710"},
	} {
		x.holds(t)
	}
}

// Terms: "bill", "left" and "trace".
func TestMoney(t *testing.T) {
	poor := changed(func(x *api.Director) { x.Funds = nil })
	none := changed(func(x *api.Director) { x.Funds = []api.Fund{} })
	for _, x := range []dialogue{
		{"uses", avenue(), "bill 8 0; bill 9999999 0; bill 7 0; bill 7 1; bill 2 1", "error 2; error 2; ok; error 4; ok"},
		{"too dear", avenue(), "bill 1 1801; bill 1 1800; bill 0 1; bill 0 0", "error 4; ok; error 4; ok"},
		{"a coin too much", avenue(), "bill 2 301; bill 2 300; bill 2 1; bill 0 1001; bill 0 1000; bill 1 501; bill 1 500", "error 4; ok; error 4; error 4; ok; error 4; ok"},
		{"the greatest number", avenue(), "bill 0 9999999", "error 4"},
		{"much money", changed(func(x *api.Director) { x.Funds[0].Amount = 1000000000 }), "bill 0 9999999; left 0; trace 0", "ok; 990000001 990000301; 9999999 0 0"},
		{"what can no more be moved", avenue(), "bill 1 500; left 0; left 1; left 2; bill 0 1300; left 0; left 1; left 2; trace 0; trace 1", "ok; 500 1000; 0 500; 0 300; ok; 0 0; 0 0; 0 0; 0 500 0; 1000 0 300"},
		{"a trace changes", avenue(), "bill 1 600; trace 0; bill 0 900; trace 0; trace 1; trace 2", "ok; 600 0 0; ok; 400 200 0; 600 0 300; error 7"},
		{"no bills", avenue(), "left 0; left 2; left 3; trace 0; trace 9999999", "1000 1000; 300 300; error 7; error 7; error 7"},
		{"no funds", poor, "bill 0 1; bill 0 0; bill 7 0; trace 0; trace 1; trace 2; left 0", "error 4; ok; ok; none; none; error 7; error 7"},
		{"an empty list of funds", none, "bill 0 0; trace 0; left 0", "ok; none; error 7"},
		{"as many bills as may be", avenue(), many(8, "bill 0 1") + "; bill 0 1; bill 9 1; bill 0 9999; left 0; trace 7; trace 8", many(8, "ok") + "; error 5; error 5; error 5; 992 1000; 1 0 0; error 7"},
		// the date
		{"on the first day", changed(func(x *api.Director) { x.Date = 5 }), "bill 1 1800; left 1", "ok; 0 0"},
		{"a day before", changed(func(x *api.Director) { x.Date = 4 }), "bill 1 1301; bill 1 1300; left 1", "error 4; ok; 500 500"},
		{"on the last day", changed(func(x *api.Director) { x.Date = 20 }), "bill 1 1800; left 1", "ok; 0 0"},
		{"a day behind", changed(func(x *api.Director) { x.Date = 21 }), "bill 1 1301; bill 1 1300; left 1", "error 4; ok; 500 500"},
		{"the second of the night is not the date", avenue(), "at 43199; bill 1 1800; left 1", "ok; ok; 0 0"},
	} {
		x.holds(t)
	}
}

// P10.1: the desk, whose lists are in the order in which they were written.
func TestKeep(t *testing.T) {
	lines := strings.Split("at 60; wing; fine 2 7; absent 1 2; open 0 1 655 90 100 80; band 2 50 51 10 1 1 0; bill 1 600; at 63; wing; absent 0 2; absent 1 2; fine 2 7; fine 0 1; open 0 0 633 100 90 80; open 0 1 655 90 100 80; band 0 100 110 20 50; bill 0 900; bill 7 0; at 70; wing; fuel; bill 7 1; band 2 0 0 1 1; open 1 2 0 50 50 50; at 69", "; ")
	want := api.Desk{
		Second: 70,
		Starts: []int{60, 63, 70},
		Night: api.Night{
			Opened: []api.Envelope{{Judge: 1, Marks: []int{90, 100, 80}, Seal: 655}, {Marks: []int{100, 90, 80}, Seal: 633}, {Judge: 1, Marks: []int{90, 100, 80}, Seal: 655}},
			Absent: []api.Absence{{Matter: 1, Judge: 2}, {Judge: 2}, {Matter: 1, Judge: 2}},
			Fines:  []api.Fine{{School: 2, Points: 7}, {School: 2, Points: 7}, {Points: 1}},
		},
		Bands: []api.Band{{First: 2, Path: []int{1, 0}, Start: span(50, 51), Stay: 10, People: 1}, {Start: span(100, 110), Stay: 20, People: 50}},
		Bills: []api.Bill{{Day: 10, Use: 1, Amount: 600}, {Day: 10, Amount: 900}, {Day: 10, Use: 7}},
	}
	if d := keep(t, avenue(), lines); !sameDesk(d, want) {
		t.Error(d)
	}
	if d := keep(t, avenue(), nil); !sameDesk(d, api.Desk{}) {
		t.Error(d)
	}
}

// P10.2: Report.
func TestReport(t *testing.T) {
	const untold = "school 0 200 400\nschool 1 200 400\nschool 2 200 400\n"
	for _, x := range []struct {
		about       string
		x           api.Director
		lines, want string
	}{
		{"nothing", avenue(), "", "at 0\n" + untold + "end\n"},
		{"what is refused", avenue(), "at 43200; place 0; band 3 0 0 1 1; bill 8 0; absent 2 0; fuel", "at 0\n" + untold + "end\n"},
		{"a second", avenue(), "at 43199", "at 43199\n" + untold + "end\n"},
		{"wings", avenue(), "at 100; wing; at 103; wing; at 108; wing; at 110", "at 110\nwing front 100 400 500\nwing drums 103 300 400\nwing back 108 60 100\n" + untold + "end\n"},
		{"schools", avenue(), "open 0 0 633 100 90 80; fine 1 5; fine 2 1000", "at 0\nschool 0 250 400\nschool 1 235 395\nschool 2 -770 -600\nend\n"},
		{"another scale", changed(func(x *api.Director) {
			x.Scale = api.Scale{Schools: 1, Matters: 1, Judges: 1, Low: 3, High: 9, Order: []int{0}}
		}), "", "at 0\nschool 0 3 9\nend\n"},
		{"bands", avenue(), "band 0 100 110 20 50 0 1; band 1 300 300 10 90; band 2 10 10 1 1", "at 0\n" + untold + "band 0 0 1 2\nband 1 2\nend\n"},
		{"bills", avenue(), "bill 1 600; bill 0 900; bill 7 0; bill 7 1", "at 0\n" + untold + "bill 1 600 400 200 0\nbill 0 900 600 0 300\nbill 7 0 0 0 0\nend\n"},
		{"no funds", changed(func(x *api.Director) { x.Funds = nil }), "bill 3 0", "at 0\n" + untold + "bill 3 0\nend\n"},
		{"all of that, in another order", avenue(), "bill 1 600; band 0 100 110 20 50 0 1; fine 2 1000; at 5; wing; at 10", "at 10\nwing front 5 200 250\nschool 0 200 400\nschool 1 200 400\nschool 2 -800 -600\nband 0 0 1 2\nbill 1 600 600 0 0\nend\n"},
	} {
		if text := report(t, x.x, strings.Split(x.lines, "; ")); text != x.want {
			t.Errorf("%s: %q", x.about, text)
		}
	}
}
