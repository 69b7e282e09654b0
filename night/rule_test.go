package night_test

import (
	"math"
	"math/rand/v2"
	"slices"
	"strings"
	"testing"

	"bateria/api"
	"bateria/night"
)

var strange = []int{math.MinInt, -3651, -1, 0, 1, 2, 719, 720, 3650, 3651, 43199, 43200, 100000, 100001, 1000000001, math.MaxInt}

// answers asks all functions, and looks for results beside an error.
func answers(t *testing.T, x api.Director, script string) {
	t.Helper()
	e := night.Check(x)
	if _, of := night.Run(x, script); e == api.OK {
		e = of
	}
	askAll(t, x, script, e)
}

// P1 and R5: any values are taken, and all functions return; R3: with an error the other results are zero values.
func TestStrangeArguments(t *testing.T) {
	lines := scriptOf(strings.Split("wing; at 100; wing; at 200; wing; place 0; gap 1; lasts; fine 0 1; places; winner; table; band 0 100 100 1 1; heard 0; sleep 0; bill 0 1; left 0; trace 0", "; "))
	for _, a := range strange {
		for _, b := range strange {
			for _, change := range []func(x *api.Director){
				func(x *api.Director) { x.School.Route, x.Date = a, b },
				func(x *api.Director) { x.School.Wings[1].Length, x.School.Wings[2].Pace.Hi = a, b },
				func(x *api.Director) { x.Rules.Least, x.Rules.Most = a, b },
				func(x *api.Director) { x.Rules.Gap, x.Scale.Drop = a, b },
				func(x *api.Director) { x.Scale.Schools, x.Scale.Judges = a, b },
				func(x *api.Director) { x.Scale.Low, x.Scale.High = a, b },
				func(x *api.Director) { x.City.Break, x.City.Sleep[0] = a, b },
				func(x *api.Director) { x.City.Town.Steps, x.City.Town.Rooms[0] = a, b },
				func(x *api.Director) { x.Funds[0].Day, x.Funds[0].Until = a, b },
				func(x *api.Director) { x.Funds[0].Amount, x.Funds[0].Uses[0] = a, b },
			} {
				answers(t, changed(change), lines)
			}
		}
	}
	for _, change := range []func(x *api.Director){
		func(x *api.Director) { *x = api.Director{} },
		func(x *api.Director) { x.School.Wings = make([]api.Wing, 100000) },
		func(x *api.Director) { x.School.Wings[0].Name = strings.Repeat("a", 100000) },
		func(x *api.Director) { x.Scale.Order = make([]int, 100000) },
		func(x *api.Director) { x.City.Sleep = make([]int, 100000) },
		func(x *api.Director) { x.City.Town.Rooms = make([]int, 100000) },
		func(x *api.Director) { x.City.Town.Groups = make([]api.Group, 100000) },
		func(x *api.Director) { x.Funds = make([]api.Fund, 100000) },
		func(x *api.Director) { x.Funds[0].Uses = make([]int, 100000) },
	} {
		answers(t, changed(change), lines)
	}
}

// P1 and R5: any bytes may be a script.
func TestStrangeScripts(t *testing.T) {
	for _, script := range []string{"\x00", "\x00\n", "\xff\xfe\n", "\n\n\n", "\r\n", strings.Repeat("\n", 100000), strings.Repeat(" ", 7999) + "\n", strings.Repeat("x", 10000000), "at" + strings.Repeat(" 1", 3900) + "\n", "open" + strings.Repeat(" 1", 3900) + "\n", "band" + strings.Repeat(" 1", 3900) + "\n", "band 0 0 0 1 1" + strings.Repeat(" 0", 3900) + "\n", "at " + strings.Repeat("9", 7000) + "\n"} {
		answers(t, avenue(), script)
	}
	pick := rand.New(rand.NewPCG(14, 10))
	for range 300 {
		bytes := []byte(scriptOf(anyLines(pick, avenue(), 40)))
		for range pick.IntN(40) {
			bytes[pick.IntN(len(bytes))] = []byte(" \n0123456789adegilnoprstw\x00\xff")[pick.IntN(27)]
		}
		answers(t, avenue(), string(bytes))
	}
}

// P1: numbers of any size in lines are taken, whatever is on the desk.
func TestStrangeNumbers(t *testing.T) {
	before := strings.Split("wing; at 100; wing; fine 0 1; open 0 0 633 100 90 80; band 2 100 100 1 1; bill 0 1", "; ")
	numbers := []int{0, 1, 2, 3, 7, 8, 12, 13, 31, 719, 720, 1001, 43199, 43200, 9999999}
	for _, a := range numbers {
		for _, b := range numbers {
			var lines []string
			for _, word := range []string{"at", "place", "gap", "heard", "sleep", "left", "trace"} {
				lines = append(lines, word+" "+said(a))
			}
			lines = append(lines, "absent "+said(a, b), "fine "+said(a, b), "bill "+said(a, b), "open "+said(a, b, 633, 100, 90, 80), "open "+said(0, 1, a, b, 60, 70), "band "+said(a, b, b, 1, 1), "band "+said(0, a, b, 1, 1), "band "+said(0, 0, 0, a, b), "band "+said(0, 0, 0, 1, 1, a, b))
			c := clerk{x: avenue()}
			lines = slices.Concat(before, lines)
			for i, reply := range run(t, avenue(), lines) {
				if want := c.reply(lines[i]); reply != want {
					t.Error(lines[i], reply, want)
				}
			}
		}
	}
}

// roomy is a list with room behind its end, which belongs to the caller; strangers stand there.
func roomy[T any](list []T, stranger T) []T {
	return append(slices.Clone(list), stranger, stranger, stranger)[:len(list)]
}

// isRoomy says whether nothing was written behind the end of a list.
func isRoomy[T comparable](list []T, stranger T) bool {
	return slices.Equal(list[:len(list)+3][len(list):], []T{stranger, stranger, stranger})
}

// overwrite writes into a list, and behind its end.
func overwrite[T any](list []T, thing T) {
	_ = append(list, thing, thing, thing)
	for i := range list {
		list[i] = thing
	}
}

// R4: arguments are not changed, not even behind their ends, and results are new memory.
func TestMemory(t *testing.T) {
	lines := strings.Split("wing; at 3; wing; open 0 0 633 100 90 80; open 0 1 655 90 100 80; absent 1 2; absent 1 1; fine 2 5; fine 1 5; band 2 50 50 30 40 1; band 2 120 120 1 1 1 0; bill 1 600; bill 0 900", "; ")
	x := avenue()
	x.School.Wings = roomy(x.School.Wings, api.Wing{Name: "x"})
	x.Scale.Order = roomy(x.Scale.Order, 77)
	x.City.Sleep = roomy(x.City.Sleep, 77)
	x.City.Town.Rooms = roomy(x.City.Town.Rooms, 77)
	x.City.Town.Streets = roomy(x.City.Town.Streets, api.Street{A: 77})
	x.Funds[0].Uses = roomy(x.Funds[0].Uses, 77)
	want := keep(t, avenue(), lines)
	if len(want.Bands) != 2 || len(want.Bills) != 2 { // what is looked at below
		t.Fatal(want)
	}
	for range 2 { // a second time, after the results of the first one were changed
		first, second := keep(t, x, lines), keep(t, x, lines)
		for _, list := range [][]int{first.Starts, first.Night.Opened[0].Marks, first.Bands[0].Path} {
			overwrite(list, 99)
		}
		if !slices.Equal(first.Night.Opened[1].Marks, []int{90, 100, 80}) || !slices.Equal(first.Bands[1].Path, []int{1, 0}) {
			t.Error("lists share memory:", first)
		}
		overwrite(first.Night.Opened, api.Envelope{})
		overwrite(first.Night.Absent, api.Absence{Matter: 9})
		overwrite(first.Night.Fines, api.Fine{School: 9})
		overwrite(first.Bands, api.Band{})
		overwrite(first.Bills, api.Bill{})
		if !sameDesk(second, want) || report(t, x, lines) != report(t, avenue(), lines) {
			t.Error(second)
		}
	}
	for _, same := range []bool{
		slices.Equal(x.School.Wings, avenue().School.Wings), slices.Equal(x.Scale.Order, []int{1, 0}),
		slices.Equal(x.City.Sleep, []int{590, 500, 0}), slices.Equal(x.City.Town.Rooms, []int{110, 80, 50}), slices.Equal(x.City.Town.Streets, avenue().City.Town.Streets),
		slices.Equal(x.Funds[0].Uses, []int{0, 1}), len(x.Funds) == 3,
		isRoomy(x.School.Wings, api.Wing{Name: "x"}), isRoomy(x.Scale.Order, 77), isRoomy(x.City.Sleep, 77), isRoomy(x.City.Town.Rooms, 77), isRoomy(x.City.Town.Streets, api.Street{A: 77}), isRoomy(x.Funds[0].Uses, 77),
	} {
		if !same {
			t.Error(x)
		}
	}
}

// R4: a nil slice and an empty one are equal.
func TestEmpty(t *testing.T) {
	lines := strings.Split("wing; at 3; wing; bill 0 0; trace 0; band 2 100 100 1 1; winner; left 0", "; ")
	empty := changed(func(x *api.Director) { x.Funds, x.City.Town.Groups = []api.Fund{}, []api.Group{} })
	none := changed(func(x *api.Director) { x.Funds, x.City.Town.Groups = nil, nil })
	if !slices.Equal(run(t, empty, lines), run(t, none, lines)) || !sameDesk(keep(t, empty, lines), keep(t, none, lines)) || report(t, empty, lines) != report(t, none, lines) {
		t.Error(run(t, empty, lines), run(t, none, lines))
	}
}

// P1: as many requests for long bands as may be asked, each of them held against all bands that may be granted, come to an end.
func TestManyRequests(t *testing.T) {
	x := changed(func(x *api.Director) { x.City.Sleep, x.City.Break = []int{0, 0, 0}, 0 })
	var lines []string
	for i := range 9 {
		lines = append(lines, "band 2 "+said(i*60, i*60+30, 2, 1)+strings.Repeat(" 1", 12))
	}
	lines = append(lines, slices.Repeat([]string{"band 2 660 690 2 51" + strings.Repeat(" 1", 12)}, 91)...)
	want := append(slices.Repeat([]string{"ok"}, 9), slices.Repeat([]string{"error 13"}, 91)...)
	if replies := run(t, x, lines); !slices.Equal(replies, want) {
		t.Error(replies)
	}
}
