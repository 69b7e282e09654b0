package band_test

import (
	"math/rand/v2"
	"slices"
	"testing"

	"bateria/api"
	"bateria/band"
	"bateria/crowd"
)

func where(t *testing.T, c api.City, b api.Band, minute int) ([]int, bool) {
	t.Helper()
	squares, away, e := band.Where(c, b, minute)
	if e != api.OK {
		t.Fatal(c, b, minute, e)
	}
	return squares, away
}

func cross(t *testing.T, c api.City, a, b api.Band) int {
	t.Helper()
	v, e := band.Cross(c, a, b)
	if e != api.OK {
		t.Fatal(c, a, b, e)
	}
	return v
}

func sleep(t *testing.T, c api.City, l []api.Band, square int) (begins, many int) {
	t.Helper()
	begins, many, e := band.Sleep(c, l, square)
	if e != api.OK {
		t.Fatal(c, l, square, e)
	}
	return begins, many
}

func grant(t *testing.T, c api.City, l []api.Band) []api.Errno {
	t.Helper()
	answers, e := band.Grant(c, l)
	if e != api.OK || len(answers) != len(l) {
		t.Fatal(c, l, answers, e)
	}
	return answers
}

// those are the bands with these numbers.
func those(l []api.Band, numbers []int) []api.Band {
	var some []api.Band
	for _, i := range numbers {
		some = append(some, l[i])
	}
	return some
}

// granted are the numbers of the bands that are granted.
func granted(answers []api.Errno) []int {
	var numbers []int
	for i, e := range answers {
		if e == api.OK {
			numbers = append(numbers, i)
		}
	}
	return numbers
}

// P7.1 and P7.6: whatever its true start is, a band is in a square of Where, or away if it may be; each of these may be.
func TestAllStarts(t *testing.T) {
	more, both := 0, 0
	for _, x := range trials(1, 300, 3) {
		for _, b := range x.bands {
			if l, e := band.Squares(x.city, b); !slices.Equal(l, squaresOf(x.city, b)) || len(l) != len(b.Path)+1 || e != api.OK {
				t.Error(x.city, b, l, e)
			}
			list := courses(x.city, b)
			for minute := range api.MaxNight {
				var want []int
				wantAway := false
				for _, y := range list {
					if y.squares[minute] == nowhere {
						wantAway = true
					} else {
						want = append(want, y.squares[minute])
					}
				}
				slices.Sort(want)
				want = slices.Compact(want)
				squares, away := where(t, x.city, b, minute)
				if !slices.Equal(squares, want) || away != wantAway {
					t.Error(x.city, b, minute, squares, away, want, wantAway)
				}
				if len(want) > 1 {
					more++
				}
				if len(want) > 0 && wantAway {
					both++
				}
			}
		}
	}
	if more < 1000 || both < 1000 {
		t.Error("few minutes of a kind:", more, both)
	}
}

// P7.2 and P7.7: Cross says what is so for all true starts of both, one by one; it says the same of both the other way round.
func TestAllMeetings(t *testing.T) {
	found := map[int]int{}
	for _, x := range trials(2, 1600, 4) {
		for i, b := range x.bands[min(1, len(x.bands)):] {
			a := x.bands[i]
			v, w := cross(t, x.city, a, b), cross(t, x.city, b, a)
			if want := verdictOf(x.city, a, b); v != want || w != want {
				t.Error(x.city, a, b, v, w, want)
			}
			found[v]++
		}
	}
	if len(found) != 3 || found[api.Sure] < 100 || found[api.Never] < 100 || found[api.Open] < 100 {
		t.Error("few verdicts of a kind:", found)
	}
}

// P7.7: with no break, streets that are gone from both ends decide.
func TestStreetMeetings(t *testing.T) {
	pick := rand.New(rand.NewPCG(3, 7))
	onlyThere := 0
	for range 2000 {
		c := anyCity(pick, 2, 2, 0)
		a, b := anyBand(pick, c, scale{3, 3, 3, 5}), anyBand(pick, c, scale{3, 3, 3, 5})
		v, want := cross(t, c, a, b), verdictOf(c, a, b)
		if v != want {
			t.Error(c, a, b, v, want)
		}
		apart := c
		apart.Town.Streets = append(slices.Clone(c.Town.Streets), c.Town.Streets...)
		b.Path = slices.Clone(b.Path)
		for i := range b.Path { // the same way, by streets that a does not go
			b.Path[i] += len(c.Town.Streets)
		}
		if w := cross(t, apart, a, b); w != v {
			onlyThere++
		}
	}
	if onlyThere < 50 {
		t.Error("few bands that meet in a street only:", onlyThere)
	}
}

// P7.2 and P7.9: in the sleep of a square no band is there, whatever the true starts; no longer run is so, nor an earlier one that is as long.
func TestAllNights(t *testing.T) {
	later := 0
	for _, x := range trials(4, 300, 10) {
		for square := range x.city.Town.Rooms {
			begins, many := sleep(t, x.city, x.bands, square)
			wantBegins, want := sleepOf(x.city, x.bands, square)
			if begins != wantBegins || many != want {
				t.Error(x, square, begins, many, wantBegins, want)
			}
			if begins > 0 && begins+many < api.MaxNight {
				later++
			}
		}
	}
	if later < 20 {
		t.Error("few sleeps between bands:", later)
	}
}

// P7.3, P7.8 and P7.9: what is granted never crosses, is never too large, and lets each square sleep as long as it is owed.
func TestGranted(t *testing.T) {
	found := map[api.Errno]int{}
	for _, x := range trials(5, 360, 6) {
		answers := grant(t, x.city, x.bands)
		if want := grantOf(x.city, x.bands); !slices.Equal(answers, want) {
			t.Error(x, answers, want)
		}
		l := those(x.bands, granted(answers))
		for i, a := range l {
			for _, b := range l[:i] {
				if v := verdictOf(x.city, a, b); v != api.Never {
					t.Error(x, a, b, v)
				}
			}
			if !isSmall(x.city, a) {
				t.Error(x, a)
			}
		}
		if !isAsleep(x.city, l) {
			t.Error(x, l)
		}
		for _, e := range answers {
			found[e]++
		}
	}
	if len(found) != 4 || found[api.OK] < 300 || found[api.ErrClash] < 80 || found[api.ErrOver] < 80 || found[api.ErrState] < 80 {
		t.Error("few answers of a kind:", found)
	}
}

// P7.10: a request that comes later changes nothing of those before; one that is not granted can be left out.
func TestInTurn(t *testing.T) {
	left := 0
	for _, x := range trials(6, 1500, 8) {
		answers := grant(t, x.city, x.bands)
		for many := range answers {
			if before := grant(t, x.city, x.bands[:many]); !slices.Equal(before, answers[:many]) {
				t.Error(x, many, before, answers)
			}
			if answers[many] == api.OK {
				continue
			}
			left++
			others := slices.Delete(slices.Clone(x.bands), many, many+1)
			if rest := grant(t, x.city, others); !slices.Equal(rest, slices.Delete(slices.Clone(answers), many, many+1)) {
				t.Error(x, many, rest, answers)
			}
		}
		l := those(x.bands, granted(answers))
		if again := grant(t, x.city, l); !slices.Equal(again, make([]api.Errno, len(l))) {
			t.Error(x, l, again)
		}
	}
	if left < 1000 {
		t.Error("few that are left out:", left)
	}
}

// P7.3 and P7.11: all choices are looked at, and none is better; Grant never grants more.
func TestBestOfAll(t *testing.T) {
	better, ties := 0, 0
	for _, x := range trials(7, 360, 6) {
		if len(x.bands) > 4 { // people that are the same let more choices be as good
			for i := range x.bands {
				x.bands[i].People %= 3
			}
		}
		best, e := band.Best(x.city, x.bands)
		if want := bestOf(x.city, x.bands); !slices.Equal(best, want) || e != api.OK {
			t.Error(x, best, want, e)
		}
		first := granted(grant(t, x.city, x.bands))
		switch {
		case len(first) > len(best), len(first) == len(best) && peopleOf(x.bands, first) > peopleOf(x.bands, best):
			t.Error(x, best, first)
		case len(first) < len(best):
			better++
		case !slices.Equal(first, best):
			ties++
		}
		if answers := grant(t, x.city, those(x.bands, best)); !slices.Equal(answers, make([]api.Errno, len(best))) {
			t.Error(x, best, answers)
		}
	}
	if better < 12 || ties < 20 {
		t.Error("few choices of a kind:", better, ties)
	}
}

// P7.11: so it is with as many bands as may be, and in the other order the best ones are as many with as many people.
func TestBestOfMany(t *testing.T) {
	pick := rand.New(rand.NewPCG(8, 7))
	many := 0
	for range 40 {
		c := anyCity(pick, 1+pick.IntN(4), pick.IntN(6), 4)
		l := anyBands(pick, c, scale{2, 6, 3, 100}, 8)
		best, e := band.Best(c, l)
		if want := bestOf(c, l); !slices.Equal(best, want) || e != api.OK {
			t.Error(c, l, best, want, e)
		}
		back := slices.Clone(l)
		slices.Reverse(back)
		other, e := band.Best(c, back)
		if len(other) != len(best) || peopleOf(back, other) != peopleOf(l, best) || e != api.OK {
			t.Error(c, l, best, other, e)
		}
		if len(best) > 3 {
			many++
		}
	}
	if many < 10 {
		t.Error("few choices of many bands:", many)
	}
}

// narrower is a span within a span.
func narrower(pick *rand.Rand, x api.Span) api.Span {
	low := x.Lo + pick.IntN(x.Hi-x.Lo+1)
	return span(low, low+pick.IntN(x.Hi-low+1))
}

// P7.12: with narrower starts a verdict of Cross that is Sure or Never stays, and no sleep is shorter.
func TestNarrower(t *testing.T) {
	pick := rand.New(rand.NewPCG(9, 7))
	decided, longer := 0, 0
	for _, x := range trials(10, 800, 5) {
		y := slices.Clone(x.bands)
		for i, b := range y {
			y[i].Start = narrower(pick, b.Start)
		}
		for i := range y {
			for j := range y[:i] {
				wide, narrow := cross(t, x.city, x.bands[i], x.bands[j]), cross(t, x.city, y[i], y[j])
				if wide != api.Open && narrow != wide {
					t.Error(x, y, i, j, wide, narrow)
				}
				if wide != narrow {
					decided++
				}
			}
		}
		for square := range x.city.Town.Rooms {
			_, wide := sleep(t, x.city, x.bands, square)
			_, narrow := sleep(t, x.city, y, square)
			if narrow < wide {
				t.Error(x, y, square, wide, narrow)
			}
			if narrow > wide {
				longer++
			}
		}
	}
	if decided < 100 || longer < 100 {
		t.Error("few of a kind:", decided, longer)
	}
}

// between are all streets between two squares that are not closed.
func between(c api.City, closed []int, a, b int) []int {
	var streets []int
	for number, x := range c.Town.Streets {
		if !slices.Contains(closed, number) && (x.A == a && x.B == b || x.A == b && x.B == a) {
			streets = append(streets, number)
		}
	}
	return streets
}

// P7.4 and P7.13: a route leads from its beginning to its end along streets that are not closed, with the least numbers; and a band that goes it is valid.
func TestRoutes(t *testing.T) {
	pick := rand.New(rand.NewPCG(11, 7))
	long, none := 0, 0
	for range 1500 {
		c := anyCity(pick, 1+pick.IntN(12), pick.IntN(13), 10)
		var closed []int
		for street := range c.Town.Streets {
			if pick.IntN(4) == 0 {
				closed = append(closed, street)
			}
		}
		from, to := pick.IntN(len(c.Town.Rooms)), pick.IntN(len(c.Town.Rooms))
		route, e := band.Route(c, closed, from, to)
		way, e2 := crowd.Way(c.Town, closed, from, to)
		if e != e2 || e != api.OK && e != api.ErrMissing {
			t.Error(c, closed, from, to, route, e, way, e2)
		}
		if e != api.OK {
			none++
			continue
		}
		if len(route) > 2 {
			long++
		}
		b := api.Band{First: from, Path: route, Stay: 1}
		squares, e := band.Squares(c, b)
		if !slices.Equal(squares, way) || squares[len(squares)-1] != to || e != api.OK {
			t.Error(c, closed, from, to, route, squares, e)
			continue
		}
		for i, street := range route {
			if streets := between(c, closed, squares[i], squares[i+1]); len(streets) == 0 || streets[0] != street {
				t.Error(c, closed, from, to, route, streets)
			}
		}
	}
	if long < 50 || none < 200 {
		t.Error("few routes of a kind:", long, none)
	}
}

// P7.13: the longest route of a town is one that a band can go.
func TestLongestRoute(t *testing.T) {
	c := api.City{Town: api.Town{Rooms: make([]int, 12)}, Sleep: make([]int, 12)}
	var want []int
	for street := range 11 {
		c.Town.Streets = append(c.Town.Streets, api.Street{A: street + 1, B: street})
		want = append(want, street)
	}
	route, e := band.Route(c, nil, 0, 11)
	if e2 := band.CheckBands(c, []api.Band{{Path: route, Start: span(0, 30), Stay: 50}}); !slices.Equal(route, want) || e != api.OK || e2 != api.OK {
		t.Error(route, e, e2)
	}
}

// T2: a band whose people come as a group that goes as it does may be where this group may be, and a band that is granted overcrowds no square alone.
func TestRoaming(t *testing.T) {
	pick := rand.New(rand.NewPCG(12, 7))
	fits, over := 0, 0
	for range 1200 {
		c := anyCity(pick, 1+pick.IntN(5), pick.IntN(8), 10)
		c.Sleep = make([]int, len(c.Town.Rooms))
		b := anyBand(pick, c, scale{5, 8, 30, 96 - 6*8})
		c.Town.Steps = 96
		c.Town.Groups = []api.Group{{Size: one(b.People), At: b.Start, Stay: b.Stay, First: b.First, Path: b.Path}}
		for step := range 97 {
			squares, away := where(t, c, b, step)
			others, away2, e := crowd.Where(c.Town, nil, 0, step)
			if !slices.Equal(squares, others) || away != away2 || e != api.OK {
				t.Error(c, b, step, squares, away, others, away2, e)
			}
		}
		crushes, e := crowd.Crushes(c.Town, nil)
		answer := grant(t, c, []api.Band{b})[0]
		switch {
		case e != api.OK || (answer == api.OK) != (len(crushes) == 0):
			t.Error(c, b, answer, crushes, e)
		case answer == api.OK:
			fits++
		case answer == api.ErrOver:
			over++
		default:
			t.Error(c, b, answer)
		}
	}
	if fits < 200 || over < 100 {
		t.Error("few bands of a kind:", fits, over)
	}
}
