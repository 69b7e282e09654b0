package crowd_test

// The model follows the section Terms of the chapter word by word: it goes step by step with each group, through all true sizes and steps that may be, all choices of closed streets, and all places at which a proof may be cut. The other tests hold the package against it.

import (
	"cmp"
	"iter"
	"math/rand/v2"
	"slices"

	"bateria/api"
)

func span(low, high int) api.Span { return api.Span{Lo: low, Hi: high} }

func one(n int) api.Span { return span(n, n) }

// plaza is the town T of the chapter's examples.
func plaza() api.Town {
	return api.Town{
		Rooms:   []int{110, 80, 50},
		Streets: []api.Street{{A: 0, B: 1}, {A: 1, B: 2}, {A: 0, B: 2}},
		Steps:   6,
		Groups: []api.Group{
			{Size: span(60, 70), Stay: 2, Path: []int{0, 1}},
			{Size: span(20, 40), At: span(1, 2), Stay: 1, Path: []int{2}},
		},
	}
}

// changed is plaza after a change.
func changed(change func(t *api.Town)) api.Town {
	t := plaza()
	change(&t)
	return t
}

// room is plaza with another room in a square.
func room(square, people int) api.Town {
	return changed(func(t *api.Town) { t.Rooms[square] = people })
}

// greatest is a town with the greatest numbers that may be: all groups go to and fro between the last two squares.
func greatest() api.Town {
	t := api.Town{Steps: 96}
	for range 12 {
		t.Rooms = append(t.Rooms, 1000000)
		t.Streets = append(t.Streets, api.Street{A: 10, B: 11})
		t.Groups = append(t.Groups, api.Group{Size: one(1000000), At: one(96), Stay: 96, First: 10, Path: slices.Repeat([]int{11}, 12)})
	}
	return t
}

// dense is a town whose last street decides alone whether the square 1 is too full, or the square 0; so a proof for as many streets splits all of them. Before, the square 2 is too full if the streets 0 to 3 are closed, and one of others, too.
func dense(others ...int) api.Town {
	t := api.Town{Rooms: []int{1, 0, 10, 100}, Steps: 20}
	for range 11 {
		t.Streets = append(t.Streets, api.Street{A: 2, B: 3})
	}
	t.Streets = append(t.Streets, api.Street{A: 0, B: 1})
	t.Groups = []api.Group{{Size: one(1), Stay: 1, Path: []int{11}}, {Size: one(1), At: one(5), Stay: 1}}
	for street := range 4 {
		t.Groups = append(t.Groups, api.Group{Size: one(2), At: one(street), Stay: 1, First: 2, Path: []int{street}})
	}
	for i, street := range others {
		t.Groups = append(t.Groups, api.Group{Size: one(1), At: one(4 + i), Stay: 1, First: 2, Path: []int{street}})
	}
	t.Groups = append(t.Groups, api.Group{Size: one(2), At: one(10), Stay: 1, First: 2})
	return t
}

const away = -1

// truePlace is where a group is in a step if it truly comes in a step: it stays, goes along the next street, stays, and so on.
func truePlace(t api.Town, g api.Group, closed []int, came, step int) int {
	if step < came {
		return away
	}
	square, path := g.First, g.Path
	for leaves := came + g.Stay; leaves <= step; leaves += g.Stay {
		switch {
		case len(path) == 0:
			return away
		case slices.Contains(closed, path[0]):
			return square
		}
		street := t.Streets[path[0]]
		square, path = street.A+street.B-square, path[1:]
	}
	return square
}

// numbers hands out the numbers of a span.
func numbers(x api.Span) iter.Seq[int] {
	return func(yield func(int) bool) {
		for n := x.Lo; n <= x.Hi; n++ {
			if !yield(n) {
				return
			}
		}
	}
}

// truth is how many people of a group truly come, and in which step.
type truth struct{ size, came int }

// truths hands out all that may be of all groups; the same list each time.
func truths(t api.Town) iter.Seq[[]truth] {
	return func(yield func([]truth) bool) {
		list := make([]truth, len(t.Groups))
		var from func(group int) bool
		from = func(group int) bool {
			if group == len(list) {
				return yield(list)
			}
			for size := range numbers(t.Groups[group].Size) {
				for came := range numbers(t.Groups[group].At) {
					list[group] = truth{size, came}
					if !from(group + 1) {
						return false
					}
				}
			}
			return true
		}
		from(0)
	}
}

// ways is how many truths there are.
func ways(t api.Town) int {
	many := 1
	for _, g := range t.Groups {
		many *= (g.Size.Hi - g.Size.Lo + 1) * (g.At.Hi - g.At.Lo + 1)
	}
	return many
}

// people is how many people each square truly has in a step.
func people(t api.Town, closed []int, list []truth, step int) []int {
	squares := make([]int, len(t.Rooms))
	for i, x := range list {
		if square := truePlace(t, t.Groups[i], closed, x.came, step); square != away {
			squares[square] += x.size
		}
	}
	return squares
}

// loadsOf are the least and the greatest of these numbers, over all that may be.
func loadsOf(t api.Town, closed []int, step int) []api.Span {
	spans := slices.Repeat([]api.Span{span(1<<60, -1)}, len(t.Rooms))
	for list := range truths(t) {
		for square, n := range people(t, closed, list, step) {
			spans[square] = span(min(spans[square].Lo, n), max(spans[square].Hi, n))
		}
	}
	return spans
}

// mostOf is the greatest number of people of a square in a step: all groups that may be there come, with as many as may be.
func mostOf(t api.Town, closed []int, square, step int) int {
	most := 0
	for _, g := range t.Groups {
		for came := range numbers(g.At) {
			if truePlace(t, g, closed, came, step) == square {
				most += g.Size.Hi
				break
			}
		}
	}
	return most
}

func crushesOf(t api.Town, closed []int) []api.Crush {
	var list []api.Crush
	for step := range t.Steps + 1 {
		for square, room := range t.Rooms {
			if most := mostOf(t, closed, square, step); most > room {
				list = append(list, api.Crush{Step: step, Square: square, Most: most})
			}
		}
	}
	return list
}

// subsets are all choices of streets, in the order in which Close prefers them.
func subsets(streets int) [][]int {
	var all [][]int
	for bits := range 1 << streets {
		var list []int
		for street := range streets {
			if bits>>street&1 == 1 {
				list = append(list, street)
			}
		}
		all = append(all, list)
	}
	slices.SortFunc(all, func(a, b []int) int { return cmp.Or(cmp.Compare(len(a), len(b)), slices.Compare(a, b)) })
	return all
}

// closeOf is the first choice with which no square is too full, if there is one.
func closeOf(t api.Town) ([]int, bool) {
	for _, closed := range subsets(len(t.Streets)) {
		if len(crushesOf(t, closed)) == 0 {
			return closed, true
		}
	}
	return nil, false
}

// What a state says of a street: the numbers of those that are open and closed, all others are undecided.
type streets struct{ open, closed []int }

func (s streets) isDecided(street int) bool {
	return slices.Contains(s.open, street) || slices.Contains(s.closed, street)
}

func (s streets) opened(street int) streets {
	return streets{append(slices.Clone(s.open), street), s.closed}
}

func (s streets) shut(street int) streets {
	return streets{s.open, append(slices.Clone(s.closed), street)}
}

// sureNumber counts the groups that may be in a square in a step and pass no street that is undecided.
func sureNumber(t api.Town, s streets, square, step int) int {
	sum := 0
	for _, g := range t.Groups {
		for came := range numbers(g.At) {
			if truePlace(t, g, s.closed, came, step) == square && isSure(g, s, came, step) {
				sum += g.Size.Hi
				break
			}
		}
	}
	return sum
}

func isSure(g api.Group, s streets, came, step int) bool {
	for i, street := range g.Path {
		if i == (step-came)/g.Stay {
			break
		}
		if !s.isDecided(street) {
			return false
		}
		if slices.Contains(s.closed, street) {
			break
		}
	}
	return true
}

func many() api.Reason { return api.Reason{Kind: api.ReasonMany} }

func split(street int) api.Reason { return api.Reason{Kind: api.ReasonSplit, Street: street} }

func full(square, step int) api.Reason {
	return api.Reason{Kind: api.ReasonFull, Square: square, Step: step}
}

// proofOf is the proof that Prove has to make for a state, also if it is too long.
func proofOf(t api.Town, most int, s streets) []api.Reason {
	if len(s.closed) > most {
		return []api.Reason{many()}
	}
	for step := range t.Steps + 1 {
		for square, room := range t.Rooms {
			if sureNumber(t, s, square, step) > room {
				return []api.Reason{full(square, step)}
			}
		}
	}
	street := 0
	for s.isDecided(street) {
		street++
	}
	return slices.Concat([]api.Reason{split(street)}, proofOf(t, most, s.opened(street)), proofOf(t, most, s.shut(street)))
}

// isProof says whether a list is a proof for a state: what follows a split is cut wherever it may be.
func isProof(t api.Town, most int, s streets, list []api.Reason) bool {
	if len(list) == 0 {
		return false
	}
	first, others := list[0], list[1:]
	switch first.Kind {
	case api.ReasonMany:
		return first == many() && len(others) == 0 && len(s.closed) > most
	case api.ReasonFull:
		if first.Street != 0 || len(others) > 0 || first.Square < 0 || first.Square >= len(t.Rooms) || first.Step < 0 || first.Step > t.Steps {
			return false
		}
		return sureNumber(t, s, first.Square, first.Step) > t.Rooms[first.Square]
	case api.ReasonSplit:
		street := first.Street
		if first.Square != 0 || first.Step != 0 || street < 0 || street >= len(t.Streets) || s.isDecided(street) {
			return false
		}
		for i := range others {
			if isProof(t, most, s.opened(street), others[:i]) && isProof(t, most, s.shut(street), others[i:]) {
				return true
			}
		}
	}
	return false
}

// wayOf is the best one of all ways that meet no square twice.
func wayOf(t api.Town, closed []int, from, to int) []int {
	var best []int
	var walk func(way []int)
	walk = func(way []int) {
		last := way[len(way)-1]
		if last == to && (best == nil || len(way) < len(best) || len(way) == len(best) && slices.Compare(way, best) < 0) {
			best = slices.Clone(way)
		}
		for i, x := range t.Streets {
			next := x.A + x.B - last
			if !slices.Contains(closed, i) && (x.A == last || x.B == last) && !slices.Contains(way, next) {
				walk(append(slices.Clone(way), next))
			}
		}
	}
	walk([]int{from})
	return best
}

// anySpan is a span within bounds, of not more numbers than wide.
func anySpan(pick *rand.Rand, most, wide int) api.Span {
	low := pick.IntN(most + 1)
	return span(low, min(most, low+pick.IntN(wide)))
}

// anyStreets are streets of a town with so many squares.
func anyStreets(pick *rand.Rand, squares, many int) []api.Street {
	var list []api.Street
	for range many {
		a := pick.IntN(squares)
		list = append(list, api.Street{A: a, B: (a + 1 + pick.IntN(squares-1)) % squares})
	}
	return list
}

// anyPath is a path from a square of at most so many streets.
func anyPath(pick *rand.Rand, t api.Town, square, most int) []int {
	var path []int
	for range pick.IntN(most + 1) {
		var near []int
		for i, x := range t.Streets {
			if x.A == square || x.B == square {
				near = append(near, i)
			}
		}
		if len(near) == 0 {
			break
		}
		street := near[pick.IntN(len(near))]
		path = append(path, street)
		square = t.Streets[street].A + t.Streets[street].B - square
	}
	return path
}

// trials are small towns, some of which can be made calm by closing streets.
func trials(many int) []api.Town {
	pick := rand.New(rand.NewPCG(1, uint64(many)))
	var list []api.Town
	for range many {
		list = append(list, anyTown(pick, 1+pick.IntN(5), pick.IntN(7), pick.IntN(5), 12, 4))
	}
	return list
}

// large are towns with numbers up to the limits.
func large(many int) []api.Town {
	pick := rand.New(rand.NewPCG(2, uint64(many)))
	var list []api.Town
	for range many {
		list = append(list, anyTown(pick, 1+pick.IntN(12), pick.IntN(13), pick.IntN(13), 96, 1000000))
	}
	return list
}

func anyTown(pick *rand.Rand, squares, streets, groups, steps, size int) api.Town {
	t := api.Town{Steps: pick.IntN(steps + 1)}
	for range squares {
		t.Rooms = append(t.Rooms, pick.IntN(size))
	}
	if squares > 1 {
		t.Streets = anyStreets(pick, squares, streets)
	}
	for range groups {
		first := pick.IntN(squares)
		if pick.IntN(4) > 0 { // or else no choice would ever help
			t.Rooms[first] = min(3*size, api.MaxPeople)
		}
		t.Groups = append(t.Groups, api.Group{
			Size:  anySpan(pick, size, max(3, size/2)),
			At:    anySpan(pick, steps/2, max(5, steps/8)),
			Stay:  1 + pick.IntN(max(3, steps/8)),
			First: first,
			Path:  anyPath(pick, t, first, min(steps/2, 12)),
		})
	}
	return t
}

func sameTown(a, b api.Town) bool {
	return slices.Equal(a.Rooms, b.Rooms) && slices.Equal(a.Streets, b.Streets) && slices.EqualFunc(a.Groups, b.Groups, sameGroup) && a.Steps == b.Steps
}

func sameGroup(a, b api.Group) bool {
	return a.Size == b.Size && a.At == b.At && a.Stay == b.Stay && a.First == b.First && slices.Equal(a.Path, b.Path)
}
