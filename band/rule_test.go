package band_test

import (
	"math"
	"slices"
	"strings"
	"testing"

	"bateria/api"
	"bateria/band"
)

var strange = []int{math.MinInt, math.MinInt + 1, -1, 0, 1, 2, 3, 12, 30, 120, 719, 720, 721, 1000000, math.MaxInt - 1, math.MaxInt}

// P1 and R5: any values are taken, and all functions return; R3: with an error the other results are zero values.
func TestStrangeArguments(t *testing.T) {
	for _, a := range strange {
		for _, b := range strange {
			for _, c := range []api.City{
				changed(func(c *api.City) { c.Town.Rooms[1], c.Town.Rooms[2] = a, b }),
				changed(func(c *api.City) { c.Town.Streets[1] = api.Street{A: a, B: b} }),
				changed(func(c *api.City) { c.Town.Steps, c.Break = a, b }),
				changed(func(c *api.City) { c.Break, c.Sleep[0] = a, b }),
				changed(func(c *api.City) { c.Sleep = []int{a, b} }),
				changed(func(c *api.City) { c.Sleep = make([]int, 1000) }),
				{},
			} {
				askAll(t, c, four(), nil, 1, 1)
			}
			for _, x := range []api.Band{
				with(func(x *api.Band) { x.Start = span(a, b) }),
				with(func(x *api.Band) { x.Start.Hi, x.Stay = a, b }),
				with(func(x *api.Band) { x.Stay, x.People = a, b }),
				with(func(x *api.Band) { x.First, x.Path[0] = a, b }),
				with(func(x *api.Band) { x.Path = []int{0, a, b} }),
				with(func(x *api.Band) { x.Path, x.Stay = make([]int, 12), a }),
				with(func(x *api.Band) { x.Path, x.Start.Lo = make([]int, 1000), a }),
			} {
				askAll(t, quarter(), []api.Band{x, four()[1]}, nil, 1, 1)
				askAll(t, quarter(), []api.Band{four()[1], x}, nil, 1, 1)
			}
			askAll(t, quarter(), four(), []int{a, b}, a, b)
			askAll(t, quarter(), four(), nil, a, b)
		}
	}
	askAll(t, quarter(), make([]api.Band, 100000), make([]int, 100000), 1, 1)
	for _, text := range []string{"\x00", "\xff\xfe\n", strings.Repeat("\n", 2000), strings.Repeat(" ", 2000), "band" + strings.Repeat(" ", 1990) + "\n", "band 0 1 2 3 \xff\nend 1\n", "end " + strings.Repeat("9", 1990) + "\n"} {
		if l, _, e := band.Read(quarter(), text); e == api.OK || len(l) > 0 {
			t.Errorf("Read %q %v %v", text, l, e)
		}
	}
}

// askAll asks all functions, and looks for results beside an error.
func askAll(t *testing.T, c api.City, l []api.Band, closed []int, a, b int) {
	t.Helper()
	if squares, e := band.Squares(c, l[0]); e != api.OK && len(squares) > 0 {
		t.Error("Squares", c, l[0], squares, e)
	}
	if squares, away, e := band.Where(c, l[0], a); e != api.OK && (len(squares) > 0 || away) {
		t.Error("Where", c, l[0], a, squares, away, e)
	}
	if v, e := band.Cross(c, l[0], l[1]); (e == api.OK) != (v >= api.Sure && v <= api.Open) || e != api.OK && v != 0 {
		t.Error("Cross", c, l[:2], v, e)
	}
	if begins, many, e := band.Sleep(c, l, a); e != api.OK && (begins != 0 || many != 0) {
		t.Error("Sleep", c, a, begins, many, e)
	}
	if answers, e := band.Grant(c, l); e != api.OK && len(answers) > 0 || e == api.OK && len(answers) != len(l) {
		t.Error("Grant", c, answers, e)
	}
	if best, e := band.Best(c, l); e != api.OK && len(best) > 0 {
		t.Error("Best", c, best, e)
	}
	if route, e := band.Route(c, closed, a, b); e != api.OK && len(route) > 0 {
		t.Error("Route", c, closed, a, b, route, e)
	}
	if text, e := band.Write(c, l); e != api.OK && text != "" || e != band.CheckBands(c, l) {
		t.Error("Write", c, text, e)
	}
	if read, row, e := band.Read(c, "band 3 1 2 3 4\nend 1\n"); e != api.OK && (len(read) > 0 || row != 0) {
		t.Error("Read", c, read, row, e)
	}
}

// roomy are quarter and the four bands with room behind all of their lists, which belongs to the caller.
func roomy() (api.City, []api.Band) {
	c, l := quarter(), four()
	c.Town.Rooms = append(c.Town.Rooms, 77, 77)[:3]
	c.Town.Streets = append(c.Town.Streets, api.Street{A: 77}, api.Street{A: 77})[:3]
	c.Sleep = append(c.Sleep, 77, 77)[:3]
	for i, b := range l {
		l[i].Path = append(b.Path, 77, 77)[:len(b.Path)]
	}
	return c, append(l, api.Band{First: 77})[:4]
}

// isRoomy says whether nothing was written behind the lists.
func isRoomy(c api.City, l []api.Band) bool {
	is := c.Town.Rooms[:5][3] == 77 && c.Town.Rooms[:5][4] == 77 && c.Town.Streets[:5][3].A == 77 && c.Town.Streets[:5][4].A == 77
	is = is && c.Sleep[:5][3] == 77 && c.Sleep[:5][4] == 77 && l[:5][4].First == 77
	for _, b := range l {
		n := len(b.Path)
		is = is && b.Path[:n+2][n] == 77 && b.Path[:n+2][n+1] == 77
	}
	return is
}

// R4: arguments are not changed, not even behind their ends, and results are new memory.
func TestMemory(t *testing.T) {
	c, l := roomy()
	closed := append([]int{2}, 77, 77)[:1]
	for range 2 { // a second time, after the results of the first one were changed
		askAll(t, c, l, closed, 125, 2)
		squares, _ := band.Squares(c, l[0])
		places, _, _ := band.Where(c, l[0], 125)
		answers, _ := band.Grant(c, l)
		best, _ := band.Best(c, l)
		route, _ := band.Route(c, closed, 0, 2)
		read, _, _ := band.Read(c, paper)
		text, _ := band.Write(c, l[:2])
		if !slices.Equal(squares, []int{0, 1, 2}) || !slices.Equal(places, []int{0, 1}) || !slices.Equal(best, []int{1, 3}) || !slices.Equal(route, []int{0, 1}) {
			t.Error(squares, places, best, route)
		}
		if !slices.Equal(answers, []api.Errno{api.OK, api.ErrClash, api.ErrOver, api.ErrState}) || !slices.EqualFunc(read, four()[:2], sameBand) || text != paper {
			t.Error(answers, read, text)
		}
		overwrite(squares, 9)
		overwrite(places, 9)
		overwrite(answers, api.ErrForm)
		overwrite(best, 9)
		overwrite(route, 9)
		overwrite(read[0].Path, 9)
		overwrite(read, api.Band{})
	}
	if d := quarter(); !slices.Equal(c.Town.Rooms, d.Town.Rooms) || !slices.Equal(c.Town.Streets, d.Town.Streets) || !slices.Equal(c.Sleep, d.Sleep) || c.Break != d.Break {
		t.Error(c)
	}
	if !slices.EqualFunc(l, four(), sameBand) || !isRoomy(c, l) || !slices.Equal(closed[:3], []int{2, 77, 77}) {
		t.Error(l, closed[:3])
	}
}

// overwrite writes into a list, and behind its end.
func overwrite[T any](list []T, thing T) {
	_ = append(list, thing, thing, thing)
	for i := range list {
		list[i] = thing
	}
}

// R4: the lists of a result share no memory with each other.
func TestApart(t *testing.T) {
	l, _, _ := band.Read(quarter(), "band 0 100 110 20 50 0 1\nband 2 120 120 30 40 1\nband 1 300 300 10 90\nband 0 650 650 10 1\nend 4\n")
	for i := range l {
		path := slices.Clone(l[i].Path)
		overwrite(l[i].Path, 9)
		l[i].Path = path
	}
	if !slices.EqualFunc(l, four(), sameBand) {
		t.Error(l)
	}
}

// R4: a nil slice and an empty one are equal.
func TestEmpty(t *testing.T) {
	for _, list := range [][]int{nil, {}} {
		for _, streets := range [][]api.Street{nil, {}} {
			c := api.City{Town: api.Town{Rooms: []int{5}, Streets: streets}, Sleep: []int{719}}
			b := api.Band{Path: list, Stay: 1}
			squares, e := band.Squares(c, b)
			v, e2 := band.Cross(c, b, still(0, 1, 1, 1, 0))
			route, e3 := band.Route(c, list, 0, 0)
			text, e4 := band.Write(c, []api.Band{b})
			if !slices.Equal(squares, []int{0}) || v != api.Never || len(route) > 0 || text != "band 0 0 0 1 0\nend 1\n" || e+e2+e3+e4 != api.OK {
				t.Error(squares, v, route, text, e, e2, e3, e4)
			}
		}
		if e := band.Check(api.City{Town: api.Town{Rooms: []int{5}}, Sleep: list}); e != api.ErrForm {
			t.Error(e)
		}
	}
	for _, l := range [][]api.Band{nil, {}} {
		begins, many, e := band.Sleep(quarter(), l, 2)
		answers, e2 := band.Grant(quarter(), l)
		best, e3 := band.Best(quarter(), l)
		text, e4 := band.Write(quarter(), l)
		if begins != 0 || many != 720 || len(answers)+len(best) > 0 || text != "end 0\n" || e+e2+e3+e4 != api.OK {
			t.Error(begins, many, answers, best, text, e, e2, e3, e4)
		}
	}
}

// R7: the greatest numbers are exact.
func TestGreatest(t *testing.T) {
	c, l := greatest(), loudest()
	for square, want := range [][2]int{{0, 720}, {0, 720}, 10: {0, 100}, 11: {0, 147}} {
		if square > 1 && square < 10 {
			continue
		}
		if begins, many, e := band.Sleep(c, l, square); begins != want[0] || many != want[1] || e != api.OK {
			t.Error(square, begins, many, e)
		}
	}
	if v, e := band.Cross(c, l[0], l[1]); v != api.Sure || e != api.OK {
		t.Error(v, e)
	}
	if answers, e := band.Grant(c, l); !slices.Equal(answers, slices.Repeat([]api.Errno{api.ErrState}, 10)) || e != api.OK {
		t.Error(answers, e)
	}
	if best, e := band.Best(c, l[:8]); len(best) > 0 || e != api.OK {
		t.Error(best, e)
	}
	c.Sleep = make([]int, 12)
	for i := range l {
		l[i] = still(i, 690, 719, 1, 1000000)
	}
	l[7].First, l[7].People = 6, 999999
	if best, e := band.Best(c, l[:8]); !slices.Equal(best, []int{0, 1, 2, 3, 4, 5, 6}) || e != api.OK {
		t.Error(best, e)
	}
	l[6].People = 999998
	if best, e := band.Best(c, l[:8]); !slices.Equal(best, []int{0, 1, 2, 3, 4, 5, 7}) || e != api.OK {
		t.Error(best, e)
	}
}
