package band_test

import (
	"slices"
	"testing"

	"bateria/api"
	"bateria/band"
)

var cities = []struct {
	about  string
	change func(c *api.City)
	want   api.Errno
}{
	{"the example", func(c *api.City) {}, api.OK},
	{"nothing", func(c *api.City) { *c = api.City{} }, api.ErrShort},
	{"the least numbers", func(c *api.City) { *c = api.City{Town: api.Town{Rooms: []int{0}}, Sleep: []int{0}} }, api.OK},
	{"the greatest numbers", func(c *api.City) { *c = greatest() }, api.OK},
	// the town
	{"no square", func(c *api.City) { c.Town.Rooms, c.Sleep = nil, nil }, api.ErrShort},
	{"too many squares", func(c *api.City) { c.Town.Rooms, c.Sleep = make([]int, 13), make([]int, 13) }, api.ErrFull},
	{"too great a room", func(c *api.City) { c.Town.Rooms[1] = 1000001 }, api.ErrRange},
	{"a street to a square that is not", func(c *api.City) { c.Town.Streets[1].B = 3 }, api.ErrMissing},
	{"a street to where it begins", func(c *api.City) { c.Town.Streets[1].B = 1 }, api.ErrForm},
	{"too great a step", func(c *api.City) { c.Town.Steps = 97 }, api.ErrRange},
	{"a group", func(c *api.City) { c.Town.Groups = []api.Group{{Stay: 1, Path: []int{0, 1}}} }, api.OK},
	{"a group that does not stay", func(c *api.City) { c.Town.Groups = []api.Group{{}} }, api.ErrRange},
	{"a group of no size", func(c *api.City) { c.Town.Groups = []api.Group{{Size: span(2, 1)}} }, api.ErrOrder},
	{"the town before the break", func(c *api.City) { c.Town.Streets[1].B, c.Break = 3, 121 }, api.ErrMissing},
	{"the town before the sleep", func(c *api.City) { c.Town.Rooms, c.Sleep = make([]int, 13), nil }, api.ErrFull},
	// the break
	{"no break", func(c *api.City) { c.Break = 0 }, api.OK},
	{"a break below 0", func(c *api.City) { c.Break = -1 }, api.ErrRange},
	{"the greatest break", func(c *api.City) { c.Break = 120 }, api.OK},
	{"too great a break", func(c *api.City) { c.Break = 121 }, api.ErrRange},
	{"the break before how many sleep", func(c *api.City) { c.Break, c.Sleep = 121, nil }, api.ErrRange},
	// the sleep
	{"nobody sleeps", func(c *api.City) { c.Sleep = nil }, api.ErrForm},
	{"a sleep less", func(c *api.City) { c.Sleep = c.Sleep[:2] }, api.ErrForm},
	{"a sleep more", func(c *api.City) { c.Sleep = append(c.Sleep, 0) }, api.ErrForm},
	{"a sleep less before one below 0", func(c *api.City) { c.Sleep = []int{-1, 0} }, api.ErrForm},
	{"the first sleep below 0", func(c *api.City) { c.Sleep[0] = -1 }, api.ErrRange},
	{"the last sleep below 0", func(c *api.City) { c.Sleep[2] = -1 }, api.ErrRange},
	{"no sleep", func(c *api.City) { c.Sleep[0] = 0 }, api.OK},
	{"the greatest sleep", func(c *api.City) { c.Sleep[2] = 720 }, api.OK},
	{"too great a sleep", func(c *api.City) { c.Sleep[2] = 721 }, api.ErrRange},
}

// errors are the errors of all functions that look at bands; the other arguments are wrong.
func errors(c api.City, b api.Band) map[string]api.Errno {
	all := map[string]api.Errno{}
	late := from(four()[0], 5, 4)
	all["CheckBands"] = band.CheckBands(c, []api.Band{four()[0], b, late})
	_, all["Squares"] = band.Squares(c, b)
	_, _, all["Where"] = band.Where(c, b, 720)
	_, all["Cross"] = band.Cross(c, b, late)
	_, all["Cross, the other way round"] = band.Cross(c, four()[0], b)
	_, _, all["Sleep"] = band.Sleep(c, []api.Band{b, late}, 99)
	_, all["Grant"] = band.Grant(c, []api.Band{b, late})
	_, all["Best"] = band.Best(c, append([]api.Band{b, late}, make([]api.Band, 7)...))
	_, all["Write"] = band.Write(c, []api.Band{b, late})
	return all
}

// P7.1 and what the other contracts say of errors: Check, and the error that all functions return first.
func TestCheck(t *testing.T) {
	for _, x := range cities {
		c := changed(x.change)
		if e := band.Check(c); e != x.want {
			t.Error(x.about, e)
		}
		if x.want == api.OK {
			continue
		}
		all := errors(c, still(-1, 0, 0, 1, 0))
		all["CheckBands, too many"] = band.CheckBands(c, make([]api.Band, 11))
		_, all["Route"] = band.Route(c, []int{99}, 99, 99)
		_, _, all["Read"] = band.Read(c, string(make([]byte, 2001)))
		for name, e := range all {
			if e != x.want {
				t.Error(x.about, name, e)
			}
		}
	}
}

var roamers = []struct {
	about  string
	change func(b *api.Band)
	want   api.Errno
}{
	{"the example", func(b *api.Band) {}, api.OK},
	{"nothing", func(b *api.Band) { *b = api.Band{} }, api.ErrRange},
	{"the least numbers", func(b *api.Band) { *b = api.Band{Stay: 1} }, api.OK},
	// the first square
	{"a first square below 0", func(b *api.Band) { b.First = -1 }, api.ErrMissing},
	{"the last square", func(b *api.Band) { b.First, b.Path = 2, nil }, api.OK},
	{"a first square that is not", func(b *api.Band) { b.First, b.Path = 3, nil }, api.ErrMissing},
	{"the first square before too long a path", func(b *api.Band) { b.First, b.Path = 3, make([]int, 13) }, api.ErrMissing},
	// the path
	{"no path", func(b *api.Band) { b.Path = nil }, api.OK},
	{"as long a path as may be", func(b *api.Band) { b.Path = make([]int, 12) }, api.OK},
	{"too long a path", func(b *api.Band) { b.Path = make([]int, 13) }, api.ErrFull},
	{"too long a path before its streets", func(b *api.Band) { b.Path = slices.Repeat([]int{9}, 13) }, api.ErrFull},
	{"a street below 0", func(b *api.Band) { b.Path = []int{-1} }, api.ErrMissing},
	{"a street that is not", func(b *api.Band) { b.Path = []int{0, 3} }, api.ErrMissing},
	{"the first street begins elsewhere", func(b *api.Band) { b.Path = []int{1} }, api.ErrForm},
	{"the next street begins elsewhere", func(b *api.Band) { b.Path = []int{0, 2} }, api.ErrForm},
	{"streets from their other ends", func(b *api.Band) { b.Path = []int{2, 1, 0} }, api.OK},
	{"a street to and fro and to", func(b *api.Band) { b.Path = []int{2, 2, 2, 1} }, api.OK},
	{"one street before the next one", func(b *api.Band) { b.Path = []int{0, 2, 3} }, api.ErrForm},
	{"one street before the next one, the other way", func(b *api.Band) { b.Path = []int{0, 3, 2} }, api.ErrMissing},
	{"too long a path before the start", func(b *api.Band) { b.Path, b.Start.Lo = make([]int, 13), -1 }, api.ErrFull},
	{"the streets before the start", func(b *api.Band) { b.Path, b.Start.Lo = []int{1}, -1 }, api.ErrForm},
	// the start
	{"the first minute", func(b *api.Band) { b.Start = one(0) }, api.OK},
	{"a start below 0", func(b *api.Band) { b.Start = span(-1, 5) }, api.ErrRange},
	{"the wrong way, and below 0", func(b *api.Band) { b.Start = span(5, -1) }, api.ErrRange},
	{"the wrong way, and too late", func(b *api.Band) { b.Start = span(721, 5) }, api.ErrRange},
	{"a start that is too great", func(b *api.Band) { b.Start = span(700, 721) }, api.ErrRange},
	{"the greatest start is too late", func(b *api.Band) { b.Start, b.Path = one(720), nil }, api.ErrLate},
	{"a start the wrong way", func(b *api.Band) { b.Start = span(5, 4) }, api.ErrOrder},
	{"a start the wrong way before the stay", func(b *api.Band) { b.Start, b.Stay = span(5, 4), 0 }, api.ErrOrder},
	{"as wide a start as may be", func(b *api.Band) { b.Start = span(5, 35) }, api.OK},
	{"too wide a start", func(b *api.Band) { b.Start = span(5, 36) }, api.ErrRange},
	{"too wide a start before one that is too late", func(b *api.Band) { b.Start = span(600, 720) }, api.ErrRange},
	// the stay
	{"the least stay", func(b *api.Band) { b.Stay = 1 }, api.OK},
	{"no stay", func(b *api.Band) { b.Stay = 0 }, api.ErrRange},
	{"a stay below 0", func(b *api.Band) { b.Stay = -1 }, api.ErrRange},
	{"the greatest stay", func(b *api.Band) { b.Stay = 120 }, api.OK},
	{"too great a stay", func(b *api.Band) { b.Stay = 121 }, api.ErrRange},
	{"the stay before the end", func(b *api.Band) { b.Stay, b.Start = 121, one(719) }, api.ErrRange},
	// the people
	{"nobody", func(b *api.Band) { b.People = 0 }, api.OK},
	{"fewer than nobody", func(b *api.Band) { b.People = -1 }, api.ErrRange},
	{"as many people as may be", func(b *api.Band) { b.People = 1000000 }, api.OK},
	{"too many people", func(b *api.Band) { b.People = 1000001 }, api.ErrRange},
	{"the people before the end", func(b *api.Band) { b.People, b.Start = -1, one(719) }, api.ErrRange},
	// the end
	{"it ends in the last minute", func(b *api.Band) { b.Start = span(650, 660) }, api.OK},
	{"it may end a minute too late", func(b *api.Band) { b.Start = span(650, 661) }, api.ErrLate},
	{"one square, in the last minute", func(b *api.Band) { *b = still(0, 719, 719, 1, 0) }, api.OK},
	{"one square, a minute too late", func(b *api.Band) { *b = still(0, 719, 719, 2, 0) }, api.ErrLate},
	{"the longest night", func(b *api.Band) { b.Path, b.Start, b.Stay = []int{0, 0, 0, 0, 0}, one(0), 120 }, api.OK},
	{"a square too many", func(b *api.Band) { b.Path, b.Start, b.Stay = []int{0, 0, 0, 0, 0, 0}, one(0), 120 }, api.ErrLate},
}

// P7.1 and what the other contracts say of errors: CheckBands, and the error of a band that all functions return before those of other arguments.
func TestCheckBands(t *testing.T) {
	for _, x := range roamers {
		b := with(x.change)
		for name, e := range errors(quarter(), b) {
			want := x.want
			switch {
			case want != api.OK || name == "Squares" || name == "Cross, the other way round":
			case name == "Where":
				want = api.ErrRange
			default: // a band that is valid lets the next one be looked at
				want = api.ErrOrder
			}
			if e != want {
				t.Error(x.about, name, e)
			}
		}
		if e := band.CheckBands(quarter(), []api.Band{b}); e != x.want {
			t.Error(x.about, e)
		}
	}
	for _, x := range []struct {
		about string
		bands []api.Band
		want  api.Errno
	}{
		{"none", nil, api.OK},
		{"the example", four(), api.OK},
		{"as many as may be", slices.Repeat(four()[:1], 10), api.OK},
		{"too many", slices.Repeat(four()[:1], 11), api.ErrFull},
		{"too many before what they are", make([]api.Band, 11), api.ErrFull},
		{"one before the next one", []api.Band{from(four()[0], 5, 4), still(3, 0, 0, 1, 0)}, api.ErrOrder},
		{"one before the next one, the other way", []api.Band{still(3, 0, 0, 1, 0), from(four()[0], 5, 4)}, api.ErrMissing},
		{"the last one", append(slices.Repeat(four()[:1], 9), from(four()[0], 5, 4)), api.ErrOrder},
	} {
		_, _, a := band.Sleep(quarter(), x.bands, 0)
		_, b := band.Grant(quarter(), x.bands)
		_, c := band.Write(quarter(), x.bands)
		if e := band.CheckBands(quarter(), x.bands); e != x.want || a != e || b != e || c != e {
			t.Error(x.about, e, a, b, c)
		}
	}
}

// P7.1: Squares.
func TestSquares(t *testing.T) {
	for _, x := range []struct {
		about string
		b     api.Band
		want  []int
		e     api.Errno
	}{
		{"the first example", four()[0], []int{0, 1, 2}, api.OK},
		{"the second example", four()[1], []int{2, 1}, api.OK},
		{"the third example", with(func(b *api.Band) { b.Path = []int{1} }), nil, api.ErrForm},
		{"no path", four()[2], []int{1}, api.OK},
		{"a square again", with(func(b *api.Band) { b.Path = []int{0, 0, 2, 1} }), []int{0, 1, 0, 2, 1}, api.OK},
		{"too late", with(func(b *api.Band) { b.Start = one(661) }), nil, api.ErrLate},
	} {
		if l, e := band.Squares(quarter(), x.b); !slices.Equal(l, x.want) || e != x.e {
			t.Error(x.about, l, e)
		}
	}
}

// P7.1: Where.
func TestWhere(t *testing.T) {
	round := api.Band{First: 2, Path: []int{2, 2, 1}, Start: span(10, 22), Stay: 5}
	for _, x := range []struct {
		about  string
		b      api.Band
		minute int
		want   []int
		away   bool
		e      api.Errno
	}{
		{"the first example", four()[0], 100, []int{0}, true, api.OK},
		{"the second example", four()[0], 125, []int{0, 1}, false, api.OK},
		{"the third example", four()[0], 165, []int{2}, true, api.OK},
		{"the fourth example", four()[0], 170, nil, true, api.OK},
		{"before it may begin", four()[0], 99, nil, true, api.OK},
		{"before it surely began", four()[0], 109, []int{0}, true, api.OK},
		{"it surely began", four()[0], 110, []int{0}, false, api.OK},
		{"before it may leave", four()[0], 119, []int{0}, false, api.OK},
		{"it may leave", four()[0], 120, []int{0, 1}, false, api.OK},
		{"it may stay", four()[0], 129, []int{0, 1}, false, api.OK},
		{"it surely left", four()[0], 130, []int{1}, false, api.OK},
		{"before it may end", four()[0], 159, []int{2}, false, api.OK},
		{"it may end", four()[0], 160, []int{2}, true, api.OK},
		{"it may be there yet", four()[0], 169, []int{2}, true, api.OK},
		{"the first minute", four()[0], 0, nil, true, api.OK},
		{"the last minute", four()[0], 719, nil, true, api.OK},
		{"a minute below 0", four()[0], -1, nil, false, api.ErrRange},
		{"a minute too late", four()[0], 720, nil, false, api.ErrRange},
		{"one true start", four()[1], 149, []int{2}, false, api.OK},
		{"it passes the street in this minute", four()[1], 150, []int{1}, false, api.OK},
		{"in the last minute", from(four()[1], 660, 660), 719, []int{1}, false, api.OK},
		{"everywhere, and away", with(func(b *api.Band) { b.Stay = 3 }), 109, []int{0, 1, 2}, true, api.OK},
		{"a square again", round, 20, []int{0, 2}, true, api.OK},
		{"a square again, or before", round, 22, []int{0, 2}, false, api.OK},
		{"a square again, and the last one", round, 29, []int{0, 1, 2}, false, api.OK},
		{"the wrong way", from(four()[0], 5, 4), 99, nil, false, api.ErrOrder},
	} {
		if l, away, e := band.Where(quarter(), x.b, x.minute); !slices.Equal(l, x.want) || away != x.away || e != x.e {
			t.Error(x.about, l, away, e)
		}
	}
}

// parallel is pausing with one more street between the squares 0 and 1.
func parallel(pause int) api.City {
	c := pausing(pause)
	c.Town.Streets = append(c.Town.Streets, api.Street{A: 1, B: 0})
	return c
}

// P7.2: Cross.
func TestCross(t *testing.T) {
	a, b := four()[0], four()[1]
	there := api.Band{First: 0, Path: []int{0}, Start: one(100), Stay: 20}
	back := api.Band{First: 1, Path: []int{0}, Start: one(100), Stay: 20}
	again := api.Band{First: 0, Path: []int{0, 0}, Start: one(100), Stay: 20}
	for _, x := range []struct {
		about string
		c     api.City
		a, b  api.Band
		want  int
	}{
		{"the first example", quarter(), a, b, api.Sure},
		{"the second example", quarter(), a, from(b, 60, 60), api.Open},
		{"the third example", quarter(), a, from(b, 50, 50), api.Never},
		{"just the break between, at least", quarter(), a, from(b, 55, 55), api.Never},
		{"a minute less than the break, perhaps", quarter(), a, from(b, 56, 56), api.Open},
		{"just the break between, at most", quarter(), a, from(b, 65, 65), api.Open},
		{"a minute less than the break, at most", quarter(), a, from(b, 66, 66), api.Sure},
		{"behind each other without a break", pausing(0), a, from(b, 60, 60), api.Never},
		{"perhaps together without a break", pausing(0), a, from(b, 61, 61), api.Open},
		{"a band and itself", quarter(), a, a, api.Sure},
		{"one is the other's follower, just the break behind", pausing(5), still(0, 100, 100, 10, 0), still(0, 115, 115, 10, 0), api.Never},
		{"a minute less behind", pausing(5), still(0, 100, 100, 10, 0), still(0, 114, 114, 10, 0), api.Sure},
		{"another square", pausing(120), still(0, 100, 100, 10, 0), still(1, 100, 100, 10, 0), api.Never},
		{"inside the other's stay", pausing(0), still(0, 100, 100, 50, 0), still(0, 120, 120, 1, 0), api.Sure},
		{"the last minute of the other's stay", pausing(0), still(0, 100, 100, 50, 0), still(0, 149, 149, 1, 0), api.Sure},
		{"the minute behind the other's stay", pausing(0), still(0, 100, 100, 50, 0), still(0, 150, 150, 1, 0), api.Never},
		{"the minute before the other's stay", pausing(0), still(0, 100, 100, 50, 0), still(0, 99, 99, 1, 0), api.Never},
		{"the longest break between", pausing(120), still(0, 0, 0, 10, 0), still(0, 130, 130, 10, 0), api.Never},
		{"a minute less than the longest break", pausing(120), still(0, 0, 0, 10, 0), still(0, 129, 129, 10, 0), api.Sure},
		{"one truth of many", pausing(0), still(0, 100, 130, 10, 0), still(0, 139, 139, 10, 0), api.Open},
		{"one truth of both", pausing(0), still(0, 100, 130, 10, 0), still(0, 139, 169, 10, 0), api.Open},
		{"no truth of both", pausing(0), still(0, 100, 130, 10, 0), still(0, 140, 170, 10, 0), api.Never},
		{"all truths of both", pausing(0), still(0, 100, 110, 11, 0), still(0, 100, 110, 11, 0), api.Sure},
		{"all truths of both but one", pausing(0), still(0, 100, 110, 10, 0), still(0, 100, 110, 10, 0), api.Open},
		{"one street in one minute, from its two ends", pausing(0), there, back, api.Sure},
		{"the streets between, from their two ends", parallel(0), there, api.Band{First: 1, Path: []int{3}, Start: one(100), Stay: 20}, api.Never},
		{"the streets between, with a break", parallel(1), there, api.Band{First: 1, Path: []int{3}, Start: one(100), Stay: 20}, api.Sure},
		{"the other street of two, from its two ends", parallel(0), api.Band{First: 0, Path: []int{3}, Start: one(100), Stay: 20}, api.Band{First: 1, Path: []int{3}, Start: one(100), Stay: 20}, api.Sure},
		{"one street, in a later minute of the path", pausing(0), api.Band{First: 2, Path: []int{2, 0}, Start: one(100), Stay: 10}, back, api.Sure},
		{"one street, in other minutes", pausing(0), api.Band{First: 0, Path: []int{0}, Start: one(100), Stay: 1}, api.Band{First: 1, Path: []int{0}, Start: one(102), Stay: 1}, api.Never},
		{"one street, in one of these minutes", pausing(0), api.Band{First: 0, Path: []int{0}, Start: span(100, 102), Stay: 1}, api.Band{First: 1, Path: []int{0}, Start: one(102), Stay: 1}, api.Open},
		{"two first squares in one minute", pausing(120), still(0, 100, 100, 20, 0), still(2, 100, 100, 20, 0), api.Never},
		{"two first squares in one minute, with paths", pausing(0), there, api.Band{First: 2, Path: []int{2}, Start: one(100), Stay: 20}, api.Never},
		{"where it comes again", pausing(5), again, still(0, 145, 145, 1, 0), api.Sure},
		{"between, before it comes again", pausing(5), again, still(0, 125, 125, 10, 0), api.Never},
		{"between, too long", pausing(5), again, still(0, 125, 125, 11, 0), api.Sure},
		{"between, too soon", pausing(5), again, still(0, 124, 124, 10, 0), api.Sure},
		{"behind it comes again", pausing(5), again, still(0, 165, 165, 10, 0), api.Never},
		{"behind it comes again, too soon", pausing(5), again, still(0, 164, 164, 10, 0), api.Sure},
	} {
		v, e := band.Cross(x.c, x.a, x.b)
		w, e2 := band.Cross(x.c, x.b, x.a)
		if v != x.want || w != x.want || e != api.OK || e2 != api.OK {
			t.Error(x.about, v, w, e, e2)
		}
		if v := verdictOf(x.c, x.a, x.b); v != x.want {
			t.Error("the model:", x.about, v)
		}
	}
}

// P7.2: the errors of Cross are those of the first band, then those of the second one.
func TestCrossErrors(t *testing.T) {
	lost, wrong := still(3, 0, 0, 1, 0), from(four()[0], 5, 4)
	for _, x := range []struct {
		a, b api.Band
		want api.Errno
	}{{lost, wrong, api.ErrMissing}, {wrong, lost, api.ErrOrder}, {four()[0], lost, api.ErrMissing}, {wrong, four()[0], api.ErrOrder}} {
		if v, e := band.Cross(quarter(), x.a, x.b); v != 0 || e != x.want {
			t.Error(x, v, e)
		}
	}
}

// P7.2: Sleep.
func TestSleep(t *testing.T) {
	var loud []api.Band
	for k := range 6 {
		loud = append(loud, still(0, 120*k, 120*k, 120, 0))
	}
	quiet := slices.Clone(loud)
	quiet[3].Stay = 119
	for _, x := range []struct {
		about                string
		bands                []api.Band
		square, begins, many int
		e                    api.Errno
	}{
		{"the first example", four()[:1], 0, 130, 590, api.OK},
		{"the second example", nil, 0, 0, 720, api.OK},
		{"the third example", four()[1:2], 1, 180, 540, api.OK},
		{"of two bands", four()[:2], 2, 170, 550, api.OK},
		{"until a later band", four(), 0, 130, 520, api.OK},
		{"before and behind", four(), 1, 310, 410, api.OK},
		{"no band is there", four()[2:], 2, 0, 720, api.OK},
		{"before is as long as behind", []api.Band{still(0, 355, 355, 10, 0)}, 0, 0, 355, api.OK},
		{"before is longer by one", []api.Band{still(0, 355, 355, 11, 0)}, 0, 0, 355, api.OK},
		{"behind is longer by one", []api.Band{still(0, 354, 354, 11, 0)}, 0, 365, 355, api.OK},
		{"behind is longer", []api.Band{still(0, 354, 354, 10, 0)}, 0, 364, 356, api.OK},
		{"all that may be is noise", []api.Band{still(0, 354, 356, 9, 0)}, 0, 365, 355, api.OK},
		{"between is longer", []api.Band{still(0, 100, 110, 10, 0), still(0, 480, 490, 120, 0)}, 0, 120, 360, api.OK},
		{"from the first minute", []api.Band{still(0, 0, 0, 1, 0)}, 0, 1, 719, api.OK},
		{"until the last minute", []api.Band{still(0, 719, 719, 1, 0)}, 0, 0, 719, api.OK},
		{"it comes again", []api.Band{{First: 0, Path: []int{0, 0}, Start: one(0), Stay: 120}}, 0, 360, 360, api.OK},
		{"between, until it comes again", []api.Band{{First: 0, Path: []int{0, 0}, Start: one(0), Stay: 120}, still(0, 360, 360, 120, 0), still(0, 480, 480, 120, 0), still(0, 610, 610, 110, 0)}, 0, 120, 120, api.OK},
		{"never", loud, 0, 0, 0, api.OK},
		{"one minute", quiet, 0, 479, 1, api.OK},
		{"never there, all night elsewhere", loud, 1, 0, 720, api.OK},
		{"a square below 0", nil, -1, 0, 0, api.ErrMissing},
		{"a square that is not", four(), 3, 0, 0, api.ErrMissing},
		{"a band before the square", []api.Band{{}}, 3, 0, 0, api.ErrRange},
		{"too many bands before the square", make([]api.Band, 11), 3, 0, 0, api.ErrFull},
	} {
		if begins, many, e := band.Sleep(quarter(), x.bands, x.square); begins != x.begins || many != x.many || e != x.e {
			t.Error(x.about, begins, many, e)
		}
	}
}

// owed is quarter without a break, in which these sleeps are owed.
func owed(sleep ...int) api.City {
	return changed(func(c *api.City) { c.Break, c.Sleep = 0, sleep })
}

// P7.3: Grant.
func TestGrant(t *testing.T) {
	a, b := four()[0], four()[1]
	fine, clash, over, state := api.OK, api.ErrClash, api.ErrOver, api.ErrState
	for _, x := range []struct {
		about string
		c     api.City
		bands []api.Band
		want  []api.Errno
	}{
		{"the example", quarter(), four(), []api.Errno{fine, clash, over, state}},
		{"none", quarter(), nil, nil},
		{"the other one first", quarter(), []api.Band{b, a}, []api.Errno{fine, clash}},
		{"they never cross", quarter(), []api.Band{a, from(b, 50, 50)}, []api.Errno{fine, fine}},
		{"they may cross", quarter(), []api.Band{a, from(b, 60, 60)}, []api.Errno{fine, clash}},
		{"one that is not granted does not cross", owed(0, 0, 0), []api.Band{still(0, 0, 0, 10, 0), still(0, 5, 5, 10, 0), still(0, 12, 12, 10, 0)}, []api.Errno{fine, clash, fine}},
		{"one that is too large does not cross", owed(0, 0, 0), []api.Band{still(0, 0, 0, 10, 111), still(0, 5, 5, 10, 0)}, []api.Errno{over, fine}},
		{"one that is too loud does not cross", owed(710, 0, 0), []api.Band{still(0, 1, 1, 10, 0), still(0, 5, 5, 6, 0), still(0, 0, 0, 10, 0)}, []api.Errno{state, state, fine}},
		{"one that is not granted is not too loud", owed(700, 0, 0), []api.Band{still(0, 0, 0, 10, 0), still(0, 9, 9, 21, 0), still(0, 20, 20, 10, 0)}, []api.Errno{fine, clash, state}},
		{"the last one of many crosses the first one", owed(0, 0, 0), []api.Band{still(0, 0, 0, 10, 0), still(1, 0, 0, 10, 0), still(2, 0, 0, 10, 0), still(0, 9, 9, 1, 0)}, []api.Errno{fine, fine, fine, clash}},
		{"just enough room", owed(0, 0, 0), []api.Band{with(func(b *api.Band) { b.People = 50 })}, []api.Errno{fine}},
		{"too little room in the last square", owed(0, 0, 0), []api.Band{with(func(b *api.Band) { b.People = 51 })}, []api.Errno{over}},
		{"too little room in the first square", owed(0, 0, 0), []api.Band{{First: 2, Path: []int{1}, Stay: 1, People: 51}}, []api.Errno{over}},
		{"too little room where it does not go", owed(0, 0, 0), []api.Band{{First: 0, Path: []int{0}, Stay: 1, People: 80}}, []api.Errno{fine}},
		{"crossing before being too large", owed(0, 0, 0), []api.Band{a, with(func(b *api.Band) { b.People = 51 })}, []api.Errno{fine, clash}},
		{"crossing before noise", owed(590, 0, 0), []api.Band{a, from(a, 120, 120)}, []api.Errno{fine, clash}},
		{"being too large before noise", owed(720, 0, 0), []api.Band{with(func(b *api.Band) { b.People = 51 })}, []api.Errno{over}},
		{"just enough sleep", owed(590, 570, 550), []api.Band{a}, []api.Errno{fine}},
		{"a minute too little in the first square", owed(591, 0, 0), []api.Band{a}, []api.Errno{state}},
		{"a minute too little between", owed(590, 571, 0), []api.Band{a}, []api.Errno{state}},
		{"a minute too little in the last square", owed(590, 570, 551), []api.Band{a}, []api.Errno{state}},
		{"all night", owed(720, 0, 0), []api.Band{still(0, 0, 0, 1, 0), still(1, 0, 0, 1, 0)}, []api.Errno{state, fine}},
		{"two make too much noise", owed(600, 0, 0), []api.Band{still(0, 100, 100, 20, 0), still(0, 650, 650, 10, 0), still(0, 0, 0, 100, 0)}, []api.Errno{fine, state, fine}},
	} {
		l, e := band.Grant(x.c, x.bands)
		if !slices.Equal(l, x.want) || e != api.OK {
			t.Error(x.about, l, e)
		}
		if l := grantOf(x.c, x.bands); !slices.Equal(l, x.want) {
			t.Error("the model:", x.about, l)
		}
	}
	ten := slices.Repeat([]api.Band{still(1, 0, 30, 120, 0)}, 10)
	if l, e := band.Grant(quarter(), ten); !slices.Equal(l, append([]api.Errno{fine}, slices.Repeat([]api.Errno{clash}, 9)...)) || e != api.OK {
		t.Error("as many as may be:", l, e)
	}
}

// even are bands of which only the first and the last one, and the two between, can be granted together.
func even(first, second, third, last int) []api.Band {
	return []api.Band{
		still(0, 100, 100, 10, first),
		still(0, 105, 105, 10, second),
		{First: 0, Path: []int{0, 0}, Start: one(95), Stay: 10, People: third},
		still(0, 110, 110, 10, last),
	}
}

// P7.3: Best.
func TestBest(t *testing.T) {
	a, b := four()[0], four()[1]
	large := from(a, 300, 300)
	large.People = 111
	for _, x := range []struct {
		about string
		c     api.City
		bands []api.Band
		want  []int
	}{
		{"the first example", quarter(), four(), []int{1, 3}},
		{"the second example", quarter(), []api.Band{a, from(b, 50, 50), four()[2], four()[3]}, []int{0, 1}},
		{"none", quarter(), nil, nil},
		{"none can be granted", quarter(), []api.Band{large}, nil},
		{"one cannot", quarter(), []api.Band{large, a, large}, []int{1}},
		{"nobody is more than none", quarter(), []api.Band{still(0, 0, 0, 1, 0)}, []int{0}},
		{"more bands before more people", owed(0, 0, 0), []api.Band{still(0, 0, 0, 100, 110), still(0, 0, 0, 10, 0), still(0, 10, 10, 10, 0)}, []int{1, 2}},
		{"more people", owed(0, 0, 0), []api.Band{still(0, 0, 0, 10, 7), still(0, 0, 0, 10, 9), still(0, 0, 0, 10, 8)}, []int{1}},
		{"the first of as many people", owed(0, 0, 0), []api.Band{still(0, 0, 0, 10, 7), still(0, 0, 0, 10, 9), still(0, 0, 0, 10, 9)}, []int{1}},
		{"the first in lexicographic order", owed(0, 0, 0), even(10, 15, 5, 10), []int{0, 3}},
		{"the people of all", owed(0, 0, 0), even(10, 15, 6, 10), []int{1, 2}},
		{"the people of all, not of the greatest", owed(0, 0, 0), even(10, 19, 2, 12), []int{0, 3}},
		{"sleep together", owed(600, 0, 0), []api.Band{still(0, 100, 100, 20, 3), still(0, 650, 650, 10, 9), still(0, 0, 0, 100, 1)}, []int{0, 2}},
	} {
		l, e := band.Best(x.c, x.bands)
		if !slices.Equal(l, x.want) || e != api.OK {
			t.Error(x.about, l, e)
		}
		if l := bestOf(x.c, x.bands); !slices.Equal(l, x.want) {
			t.Error("the model:", x.about, l)
		}
	}
}

// P7.3: how many bands there may be.
func TestManyBands(t *testing.T) {
	var apart []api.Band
	for k := range 10 {
		apart = append(apart, still(1, 20*k, 20*k, 10, 1))
	}
	if l, e := band.Best(quarter(), apart[:8]); !slices.Equal(l, []int{0, 1, 2, 3, 4, 5, 6, 7}) || e != api.OK {
		t.Error(l, e)
	}
	if l, e := band.Best(quarter(), apart[:9]); len(l) > 0 || e != api.ErrFull {
		t.Error(l, e)
	}
	if l, e := band.Best(quarter(), append(slices.Clone(apart[:8]), still(3, 0, 0, 1, 0))); len(l) > 0 || e != api.ErrMissing {
		t.Error("a band before too many:", l, e)
	}
	if l, e := band.Grant(quarter(), apart); !slices.Equal(l, make([]api.Errno, 10)) || e != api.OK {
		t.Error(l, e)
	}
}

// P7.4: Route.
func TestRoute(t *testing.T) {
	twice := changed(func(c *api.City) {
		c.Town.Streets = append(c.Town.Streets, api.Street{A: 2, B: 0}, api.Street{A: 2, B: 1}, api.Street{A: 1, B: 2})
	})
	for _, x := range []struct {
		about    string
		c        api.City
		closed   []int
		from, to int
		want     []int
		e        api.Errno
	}{
		{"the first example", quarter(), nil, 0, 2, []int{2}, api.OK},
		{"the second example", quarter(), []int{2}, 0, 2, []int{0, 1}, api.OK},
		{"the third example", quarter(), nil, 0, 0, nil, api.OK},
		{"back", quarter(), []int{2}, 2, 0, []int{1, 0}, api.OK},
		{"from a square to itself without streets", quarter(), []int{0, 1, 2}, 1, 1, nil, api.OK},
		{"the first of two streets", twice, nil, 0, 2, []int{2}, api.OK},
		{"the first of two streets, back", twice, nil, 2, 0, []int{2}, api.OK},
		{"the first of two streets is closed", twice, []int{2}, 0, 2, []int{3}, api.OK},
		{"the first of two streets is closed, back", twice, []int{2}, 2, 0, []int{3}, api.OK},
		{"the second of three streets", twice, []int{1, 2, 3}, 0, 2, []int{0, 4}, api.OK},
		{"the third of three streets", twice, []int{1, 2, 3, 4}, 2, 0, []int{5, 0}, api.OK},
		{"no way", quarter(), []int{1, 2}, 0, 2, nil, api.ErrMissing},
		{"from a square below 0", quarter(), nil, -1, 0, nil, api.ErrMissing},
		{"from a square that is not", quarter(), nil, 3, 3, nil, api.ErrMissing},
		{"to a square that is not", quarter(), nil, 0, 3, nil, api.ErrMissing},
		{"a closed street that is not", quarter(), []int{3}, 0, 0, nil, api.ErrMissing},
		{"closed streets in the wrong order", quarter(), []int{2, 1}, 0, 0, nil, api.ErrOrder},
		{"closed streets before the squares", quarter(), []int{1, 1}, 3, 3, nil, api.ErrOrder},
	} {
		if l, e := band.Route(x.c, x.closed, x.from, x.to); !slices.Equal(l, x.want) || e != x.e {
			t.Error(x.about, l, e)
		}
	}
}
