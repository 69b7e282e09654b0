package band_test

// The model follows the section Terms of the chapter word by word: it goes minute by minute with each band, from each true start, and looks at all choices of bands. The other tests hold the package against it.

import (
	"cmp"
	"math/rand/v2"
	"slices"

	"bateria/api"
)

func span(low, high int) api.Span { return api.Span{Lo: low, Hi: high} }

func one(n int) api.Span { return span(n, n) }

// quarter is the city C of the chapter's examples.
func quarter() api.City {
	return api.City{
		Town:  api.Town{Rooms: []int{110, 80, 50}, Streets: []api.Street{{A: 0, B: 1}, {A: 1, B: 2}, {A: 0, B: 2}}, Steps: 6},
		Break: 5,
		Sleep: []int{590, 500, 0},
	}
}

// changed is quarter after a change.
func changed(change func(c *api.City)) api.City {
	c := quarter()
	change(&c)
	return c
}

// pausing is quarter with another break, and no sleep owed.
func pausing(minutes int) api.City {
	return changed(func(c *api.City) { c.Break, c.Sleep = minutes, make([]int, 3) })
}

// four are the bands A, B, D and E of the chapter's examples.
func four() []api.Band {
	return []api.Band{
		{First: 0, Path: []int{0, 1}, Start: span(100, 110), Stay: 20, People: 50},
		{First: 2, Path: []int{1}, Start: one(120), Stay: 30, People: 40},
		{First: 1, Start: one(300), Stay: 10, People: 90},
		{First: 0, Start: one(650), Stay: 10, People: 1},
	}
}

// with is the band A after a change.
func with(change func(b *api.Band)) api.Band {
	b := four()[0]
	change(&b)
	return b
}

// from is a band that begins between other minutes.
func from(b api.Band, low, high int) api.Band {
	b.Start = span(low, high)
	return b
}

// still is a band that does not leave its square.
func still(square, low, high, stay, people int) api.Band {
	return api.Band{First: square, Start: span(low, high), Stay: stay, People: people}
}

// greatest is a city with the greatest numbers that may be.
func greatest() api.City {
	c := api.City{Town: api.Town{Steps: 96}, Break: 120}
	for range 12 {
		c.Town.Rooms = append(c.Town.Rooms, 1000000)
		c.Town.Streets = append(c.Town.Streets, api.Street{A: 10, B: 11})
		c.Town.Groups = append(c.Town.Groups, api.Group{Size: one(1000000), At: one(96), Stay: 96, First: 10, Path: slices.Repeat([]int{11}, 12)})
		c.Sleep = append(c.Sleep, 720)
	}
	return c
}

// loudest are the most bands that may be in greatest: they go to and fro until the last minute.
func loudest() []api.Band {
	return slices.Repeat([]api.Band{{First: 10, Path: slices.Repeat([]int{11}, 12), Start: span(100, 109), Stay: 47, People: 1000000}}, 10)
}

const nowhere = -1

// course is where a band truly is in each minute, and which street it passes in it; the last one is that in which all are away.
type course struct{ squares, streets [api.MaxNight + 1]int }

// courseOf goes with a band from its true start: it stays, passes a street, stays, and so on.
func courseOf(c api.City, b api.Band, start int) course {
	x := course{}
	for minute := range x.squares {
		x.squares[minute], x.streets[minute] = nowhere, nowhere
	}
	square, minute := b.First, start
	for _, street := range append(slices.Clone(b.Path), nowhere) {
		for range b.Stay {
			x.squares[minute] = square
			minute++
		}
		if street != nowhere {
			x.streets[minute] = street
			square = c.Town.Streets[street].A + c.Town.Streets[street].B - square
		}
	}
	return x
}

// courses are those with each true start.
func courses(c api.City, b api.Band) []course {
	var list []course
	for start := b.Start.Lo; start <= b.Start.Hi; start++ {
		list = append(list, courseOf(c, b, start))
	}
	return list
}

// squaresOf are the squares of a band in the order in which it comes to them.
func squaresOf(c api.City, b api.Band) []int {
	var list []int
	for _, square := range courseOf(c, b, b.Start.Lo).squares {
		if square != nowhere && (len(list) == 0 || list[len(list)-1] != square) {
			list = append(list, square)
		}
	}
	return list
}

// crosses says whether two bands truly cross.
func crosses(pause int, x, y course) bool {
	for minute, square := range x.squares {
		if square != nowhere && square == y.squares[minute] {
			return true
		}
		if street := x.streets[minute]; street != nowhere && street == y.streets[minute] {
			return true
		}
	}
	return isSoon(pause, x, y) || isSoon(pause, y, x)
}

// isSoon says whether y comes to a square in which x was, fewer minutes than the break after x left it.
func isSoon(pause int, x, y course) bool {
	for leaves := 1; leaves <= api.MaxNight; leaves++ {
		square := x.squares[leaves-1]
		if square == nowhere || x.squares[leaves] == square {
			continue
		}
		for comes := leaves; comes < min(leaves+pause, api.MaxNight); comes++ {
			if y.squares[comes] == square && y.squares[comes-1] != square {
				return true
			}
		}
	}
	return false
}

// verdictOf says whether two bands cross, for all their true starts, one by one.
func verdictOf(c api.City, a, b api.Band) int {
	is, isNot := 0, 0
	others := courses(c, b)
	for _, x := range courses(c, a) {
		for _, y := range others {
			if crosses(c.Break, x, y) {
				is++
			} else {
				isNot++
			}
		}
	}
	switch {
	case isNot == 0:
		return api.Sure
	case is == 0:
		return api.Never
	}
	return api.Open
}

// noiseOf says of each minute of the night whether a band may be in a square.
func noiseOf(c api.City, l []api.Band, square int) []bool {
	noise := make([]bool, api.MaxNight)
	for _, b := range l {
		for _, x := range courses(c, b) {
			for minute := range noise {
				noise[minute] = noise[minute] || x.squares[minute] == square
			}
		}
	}
	return noise
}

// sleepOf is the first one of the longest runs of silent minutes: one that begins in each minute is looked at.
func sleepOf(c api.City, l []api.Band, square int) (begin, many int) {
	noise := noiseOf(c, l, square)
	for first := range noise {
		last := first
		for last < len(noise) && !noise[last] {
			last++
		}
		if last-first > many {
			begin, many = first, last-first
		}
	}
	return begin, many
}

// isSmall says whether a band has room in all of its squares.
func isSmall(c api.City, b api.Band) bool {
	for _, square := range squaresOf(c, b) {
		if b.People > c.Town.Rooms[square] {
			return false
		}
	}
	return true
}

// isAsleep says whether each square sleeps as long as it is owed.
func isAsleep(c api.City, l []api.Band) bool {
	for square, owed := range c.Sleep {
		if owed == 0 { // as every square sleeps
			continue
		}
		if _, many := sleepOf(c, l, square); many < owed {
			return false
		}
	}
	return true
}

// pairs says of each band whether it may cross those before it.
func pairs(c api.City, l []api.Band) [][]bool {
	var may [][]bool
	for i, a := range l {
		var row []bool
		for _, b := range l[:i] {
			row = append(row, verdictOf(c, a, b) != api.Never)
		}
		may = append(may, row)
	}
	return may
}

// grantOf is what is granted, one band after the other.
func grantOf(c api.City, l []api.Band) []api.Errno {
	may := pairs(c, l)
	var answers []api.Errno
	var numbers []int
	var granted []api.Band
	for i, b := range l {
		with := append(slices.Clone(granted), b)
		switch {
		case slices.ContainsFunc(numbers, func(j int) bool { return may[i][j] }):
			answers = append(answers, api.ErrClash)
		case !isSmall(c, b):
			answers = append(answers, api.ErrOver)
		case !isAsleep(c, with):
			answers = append(answers, api.ErrState)
		default:
			answers = append(answers, api.OK)
			granted, numbers = with, append(numbers, i)
		}
	}
	return answers
}

// areTogether says whether the bands with these numbers can be granted together.
func areTogether(c api.City, l []api.Band, may [][]bool, numbers []int) bool {
	var chosen []api.Band
	for k, i := range numbers {
		if !isSmall(c, l[i]) || slices.ContainsFunc(numbers[:k], func(j int) bool { return may[i][j] }) {
			return false
		}
		chosen = append(chosen, l[i])
	}
	return isAsleep(c, chosen)
}

func peopleOf(l []api.Band, numbers []int) int {
	sum := 0
	for _, i := range numbers {
		sum += l[i].People
	}
	return sum
}

// subsets are all choices of so many bands, ascending.
func subsets(many int) [][]int {
	list := [][]int{nil}
	for n := range many {
		for _, before := range slices.Clone(list) {
			list = append(list, append(slices.Clone(before), n))
		}
	}
	return list
}

// bestOf looks at all choices, the best ones first.
func bestOf(c api.City, l []api.Band) []int {
	may := pairs(c, l)
	list := subsets(len(l))
	slices.SortFunc(list, func(a, b []int) int {
		return cmp.Or(len(b)-len(a), peopleOf(l, b)-peopleOf(l, a), slices.Compare(a, b))
	})
	for _, numbers := range list {
		if areTogether(c, l, may, numbers) {
			return numbers
		}
	}
	return nil
}

// anyCity has a few squares, most of which are joined.
func anyCity(pick *rand.Rand, squares, streets, pause int) api.City {
	c := api.City{Break: pick.IntN(pause + 1)}
	for range squares {
		c.Town.Rooms = append(c.Town.Rooms, 2+pick.IntN(9))
		owed := 0
		if pick.IntN(2) == 0 {
			owed = 500 + pick.IntN(221)
		}
		c.Sleep = append(c.Sleep, owed)
	}
	for range streets {
		if squares > 1 {
			a := pick.IntN(squares)
			c.Town.Streets = append(c.Town.Streets, api.Street{A: a, B: (a + 1 + pick.IntN(squares-1)) % squares})
		}
	}
	return c
}

// anyPath is a path of up to so many streets from a square.
func anyPath(pick *rand.Rand, c api.City, square, most int) []int {
	var path []int
	for range pick.IntN(most + 1) {
		var may []int
		for number, x := range c.Town.Streets {
			if x.A == square || x.B == square {
				may = append(may, number)
			}
		}
		if len(may) == 0 {
			return path
		}
		street := may[pick.IntN(len(may))]
		path = append(path, street)
		square = c.Town.Streets[street].A + c.Town.Streets[street].B - square
	}
	return path
}

// scale is how great the numbers of bands may be.
type scale struct{ path, stay, wide, latest int }

// Bands of short nights meet often; those of long ones use all that may be.
var short, long = scale{3, 8, 8, 60}, scale{12, 120, 30, 720}

func anyBand(pick *rand.Rand, c api.City, s scale) api.Band {
	b := api.Band{First: pick.IntN(len(c.Town.Rooms)), Stay: 1 + pick.IntN(s.stay), People: pick.IntN(10)}
	b.Path = anyPath(pick, c, b.First, s.path)
	if most := api.MaxNight/b.Stay - 1; len(b.Path) > most {
		b.Path = b.Path[:most]
	}
	latest := min(s.latest, api.MaxNight-b.Stay*(len(b.Path)+1))
	low := pick.IntN(latest + 1)
	b.Start = span(low, min(latest, low+pick.IntN(s.wide+1)))
	return b
}

func anyBands(pick *rand.Rand, c api.City, s scale, many int) []api.Band {
	var l []api.Band
	for range many {
		l = append(l, anyBand(pick, c, s))
	}
	return l
}

// trial is a city with bands.
type trial struct {
	city  api.City
	bands []api.Band
}

// trials are cities with up to so many bands, of short and of long nights.
func trials(seed uint64, many, bands int) []trial {
	pick := rand.New(rand.NewPCG(seed, 7))
	var list []trial
	for i := range many {
		c := anyCity(pick, 1+pick.IntN(5), pick.IntN(8), 12)
		s := short
		if i%4 == 0 {
			s = long
		}
		list = append(list, trial{c, anyBands(pick, c, s, pick.IntN(bands+1))})
	}
	return list
}

func sameBand(a, b api.Band) bool {
	return a.First == b.First && slices.Equal(a.Path, b.Path) && a.Start == b.Start && a.Stay == b.Stay && a.People == b.People
}
