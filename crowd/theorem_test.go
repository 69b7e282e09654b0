package crowd_test

import (
	"math/rand/v2"
	"slices"
	"testing"

	"bateria/api"
	"bateria/crowd"
)

// anyClosed are some of the streets.
func anyClosed(pick *rand.Rand, t api.Town) []int {
	var closed []int
	for street := range t.Streets {
		if pick.IntN(3) == 0 {
			closed = append(closed, street)
		}
	}
	return closed
}

func where(t *testing.T, town api.Town, closed []int, group, step int) ([]int, bool) {
	t.Helper()
	squares, isAway, e := crowd.Where(town, closed, group, step)
	if e != api.OK {
		t.Fatal(town, closed, group, step, e)
	}
	return squares, isAway
}

func loads(t *testing.T, town api.Town, closed []int, step int) []api.Span {
	t.Helper()
	l, e := crowd.Loads(town, closed, step)
	if e != api.OK || len(l) != len(town.Rooms) {
		t.Fatal(town, closed, step, l, e)
	}
	return l
}

func crushes(t *testing.T, town api.Town, closed []int) []api.Crush {
	t.Helper()
	l, e := crowd.Crushes(town, closed)
	if e != api.OK {
		t.Fatal(town, closed, e)
	}
	return l
}

// P6.1, P6.2, P6.7 and P6.8: what Where, Loads and Crushes say is so for all sizes and steps that may be, and both ends are reached.
func TestAllCrowds(t *testing.T) {
	pick := rand.New(rand.NewPCG(3, 4))
	open, both, full := 0, 0, 0
	for _, x := range trials(600) {
		closed := anyClosed(pick, x)
		for step := range x.Steps + 1 {
			for i, g := range x.Groups {
				want, wantAway := map[int]bool{}, false
				for came := range numbers(g.At) {
					if square := truePlace(x, g, closed, came, step); square == away {
						wantAway = true
					} else {
						want[square] = true
					}
				}
				squares, isAway := where(t, x, closed, i, step)
				same := len(squares) == len(want) && slices.IsSorted(squares) && isAway == wantAway
				for _, square := range squares {
					same = same && want[square]
				}
				if !same {
					t.Error(x, closed, i, step, squares, isAway, want, wantAway)
				}
				if len(squares) > 1 && isAway {
					both++
				}
			}
			if ways(x) > 2000 {
				continue
			}
			got := loads(t, x, closed, step)
			if want := loadsOf(x, closed, step); !slices.Equal(got, want) {
				t.Error(x, closed, step, got, want)
			}
			for _, n := range got {
				if n.Lo > 0 && n.Hi > n.Lo {
					open++
				}
			}
		}
		got := crushes(t, x, closed)
		if want := crushesOf(x, closed); !slices.Equal(got, want) {
			t.Error(x, closed, got, want)
		}
		if len(got) > 1 {
			full++
		}
	}
	if open < 300 || both < 50 || full < 100 {
		t.Error("few towns of a kind:", open, both, full)
	}
}

// P6.7 and P6.8: so it is in larger towns, too.
func TestLargeCrowds(t *testing.T) {
	pick := rand.New(rand.NewPCG(5, 6))
	for _, x := range large(60) {
		closed := anyClosed(pick, x)
		if got, want := crushes(t, x, closed), crushesOf(x, closed); !slices.Equal(got, want) {
			t.Error(x, closed, got, want)
		}
		for range 20 {
			var list []truth
			for _, g := range x.Groups {
				list = append(list, truth{g.Size.Lo + pick.IntN(g.Size.Hi-g.Size.Lo+1), g.At.Lo + pick.IntN(g.At.Hi-g.At.Lo+1)})
			}
			step := pick.IntN(x.Steps + 1)
			spans := loads(t, x, closed, step)
			for square, n := range people(x, closed, list, step) {
				if n < spans[square].Lo || n > spans[square].Hi || spans[square].Hi != mostOf(x, closed, square, step) {
					t.Error(x, closed, step, list, square, n, spans)
				}
			}
			for i, g := range x.Groups {
				squares, isAway := where(t, x, closed, i, step)
				square := truePlace(x, g, closed, list[i].came, step)
				if square == away && !isAway || square != away && !slices.Contains(squares, square) {
					t.Error(x, closed, step, i, square, squares, isAway)
				}
			}
		}
	}
}

// P6.3 and P6.9: Close finds the first one of the choices with the fewest streets, and nothing where none helps.
func TestFewest(t *testing.T) {
	found := map[int]int{}
	for _, x := range trials(3000) {
		got, e := crowd.Close(x)
		want, helps := closeOf(x)
		if !slices.Equal(got, want) || helps != (e == api.OK) || !helps && e != api.ErrMissing {
			t.Error(x, got, e, want, helps)
		}
		if !helps {
			found[-1]++
			continue
		}
		found[len(got)]++
		if l := crushes(t, x, got); len(l) > 0 {
			t.Error(x, got, l)
		}
	}
	if found[-1] < 300 || found[0] < 300 || found[1] < 100 || found[2] < 20 {
		t.Error("few towns of a kind:", found)
	}
}

// P6.4 and P6.10: a proof is made for one street less than Close closes, and none for as many; it is the one that the chapter tells how to make.
func TestProofs(t *testing.T) {
	made, splits := 0, 0
	for _, x := range trials(4000) {
		closed, e := crowd.Close(x)
		for most := range 8 {
			proof, e2 := crowd.Prove(x, most)
			if e == api.OK && most >= len(closed) {
				if len(proof) > 0 || e2 != api.ErrMissing {
					t.Error(x, most, closed, proof, e2)
				}
				continue
			}
			if want := proofOf(x, most, streets{}); !slices.Equal(proof, want) || e2 != api.OK {
				t.Error(x, most, proof, want, e2)
			}
			if is, e := crowd.Proved(x, most, proof); !is || e != api.OK {
				t.Error(x, most, proof, is, e)
			}
			made++
			if len(proof) > 1 {
				splits++
			}
		}
	}
	if made < 3000 || splits < 500 {
		t.Error("few proofs:", made, splits)
	}
}

// P6.4 and P6.10: a proof of which a reason is changed, left out, said twice or put elsewhere is one only if the chapter says so; and where it is, no choice helps.
func TestChangedProofs(t *testing.T) {
	pick := rand.New(rand.NewPCG(7, 8))
	kept, none := 0, 0
	for _, x := range trials(2500) {
		most := pick.IntN(3)
		proof, e := crowd.Prove(x, most)
		if e != api.OK || len(proof) > 40 {
			continue
		}
		for range 12 {
			list := changedProof(pick, x, proof)
			limit := max(0, most+pick.IntN(3)-1)
			is, e := crowd.Proved(x, limit, list)
			if want := isProof(x, limit, streets{}, list); is != want || e != api.OK {
				t.Error(x, limit, list, is, want, e)
			}
			if closed, helps := closeOf(x); is && helps && len(closed) <= limit {
				t.Error(x, limit, list, closed)
			}
			if is {
				kept++
			} else {
				none++
			}
		}
		for i := range proof {
			short := slices.Delete(slices.Clone(proof), i, i+1)
			if is, e := crowd.Proved(x, most, short); is || e != api.OK {
				t.Error("left out:", x, most, short, is, e)
			}
		}
	}
	if kept < 500 || none < 2000 {
		t.Error("few proofs of a kind:", kept, none)
	}
}

// changedProof is a proof after one change or two.
func changedProof(pick *rand.Rand, x api.Town, proof []api.Reason) []api.Reason {
	list := slices.Clone(proof)
	for range 1 + pick.IntN(2) {
		i, j := pick.IntN(len(list)), pick.IntN(len(list))
		switch pick.IntN(6) {
		case 0:
			list[i] = split(pick.IntN(len(x.Streets)+2) - 1)
		case 1:
			list[i] = full(pick.IntN(len(x.Rooms)+2)-1, pick.IntN(x.Steps+3)-1)
		case 2:
			list[i] = many()
		case 3:
			list[i], list[j] = list[j], list[i]
		case 4:
			list = slices.Insert(list, i, list[j])
		default:
			list[i].Step = pick.IntN(x.Steps + 1)
		}
	}
	return list
}

// P6.10: other proofs, which nobody told how to make, hold too: streets are split in any order, and any square that is too full is named.
func TestOtherProofs(t *testing.T) {
	pick := rand.New(rand.NewPCG(9, 10))
	others := 0
	for _, x := range trials(1500) {
		most := pick.IntN(4)
		proof, e := crowd.Prove(x, most)
		if e != api.OK {
			continue
		}
		for range 3 {
			list := otherProof(pick, x, most, streets{})
			if is, e := crowd.Proved(x, most, list); !is || e != api.OK {
				t.Error(x, most, list, is, e)
			}
			if !slices.Equal(list, proof) {
				others++
			}
		}
	}
	if others < 500 {
		t.Error("few other proofs:", others)
	}
}

// otherProof makes a proof for a state in any order.
func otherProof(pick *rand.Rand, x api.Town, most int, s streets) []api.Reason {
	var may []api.Reason
	for step := range x.Steps + 1 {
		for square, room := range x.Rooms {
			if sureNumber(x, s, square, step) > room {
				may = append(may, full(square, step))
			}
		}
	}
	if len(s.closed) > most {
		may = append(may, many())
	}
	var left []int
	for street := range x.Streets {
		if !s.isDecided(street) {
			left = append(left, street)
		}
	}
	if len(may) > 0 && (len(left) == 0 || pick.IntN(3) > 0) {
		return []api.Reason{may[pick.IntN(len(may))]}
	}
	street := left[pick.IntN(len(left))]
	return slices.Concat([]api.Reason{split(street)}, otherProof(pick, x, most, s.opened(street)), otherProof(pick, x, most, s.shut(street)))
}

// P6.11: with more room, and with fewer people at most, no more streets have to be closed.
func TestMoreRoom(t *testing.T) {
	pick := rand.New(rand.NewPCG(11, 12))
	fewer, helped := 0, 0
	for _, x := range trials(2500) {
		before, e := crowd.Close(x)
		y := x
		y.Rooms, y.Groups = slices.Clone(x.Rooms), slices.Clone(x.Groups)
		for i := range y.Rooms {
			y.Rooms[i] += pick.IntN(2)
		}
		for i, g := range y.Groups {
			y.Groups[i].Size.Hi = g.Size.Lo + pick.IntN(g.Size.Hi-g.Size.Lo+1)
		}
		after, e2 := crowd.Close(y)
		switch {
		case e == api.OK && e2 != api.OK, e == api.OK && len(after) > len(before):
			t.Error(x, y, before, after, e2)
		case e != api.OK && e2 == api.OK:
			helped++
		case len(after) < len(before):
			fewer++
		}
	}
	if fewer < 50 || helped < 50 {
		t.Error("few towns of a kind:", fewer, helped)
	}
}

// P6.12: with narrower sizes and steps nothing is wider.
func TestNarrower(t *testing.T) {
	pick := rand.New(rand.NewPCG(13, 14))
	less := 0
	for _, x := range slices.Concat(trials(800), large(40)) {
		y, closed := x, anyClosed(pick, x)
		y.Groups = slices.Clone(x.Groups)
		for i, g := range y.Groups {
			y.Groups[i].Size, y.Groups[i].At = narrower(pick, g.Size), narrower(pick, g.At)
		}
		for step := range x.Steps + 1 {
			wide, narrow := loads(t, x, closed, step), loads(t, y, closed, step)
			for square := range wide {
				if narrow[square].Lo < wide[square].Lo || narrow[square].Hi > wide[square].Hi {
					t.Error(x, y, closed, step, wide, narrow)
				}
				if narrow[square] != wide[square] {
					less++
				}
			}
			for i := range x.Groups {
				squares, isAway := where(t, x, closed, i, step)
				others, isAway2 := where(t, y, closed, i, step)
				for _, square := range others {
					if !slices.Contains(squares, square) {
						t.Error(x, y, closed, step, i, squares, others)
					}
				}
				if isAway2 && !isAway {
					t.Error(x, y, closed, step, i)
				}
			}
		}
		for _, c := range crushes(t, y, closed) {
			if !slices.ContainsFunc(crushes(t, x, closed), func(w api.Crush) bool { return w.Step == c.Step && w.Square == c.Square && w.Most >= c.Most }) {
				t.Error(x, y, closed, c)
			}
		}
	}
	if less < 1000 {
		t.Error("few numbers that are narrower:", less)
	}
}

// narrower is a span within a span.
func narrower(pick *rand.Rand, x api.Span) api.Span {
	low := x.Lo + pick.IntN(x.Hi-x.Lo+1)
	return span(low, low+pick.IntN(x.Hi-low+1))
}

// isWay says whether a list of squares goes along streets that are not closed.
func isWay(x api.Town, closed, way []int) bool {
	for i := range way[1:] {
		along := func(s api.Street) bool {
			return s == api.Street{A: way[i], B: way[i+1]} || s == api.Street{A: way[i+1], B: way[i]}
		}
		found := false
		for street, s := range x.Streets {
			found = found || along(s) && !slices.Contains(closed, street)
		}
		if !found {
			return false
		}
	}
	return true
}

// P6.5 and P6.13: a way goes along streets that are not closed, no way is shorter or before it; with fewer closed streets it is not longer.
func TestWays(t *testing.T) {
	pick := rand.New(rand.NewPCG(15, 16))
	long, none, shorter := 0, 0, 0
	for range 1500 {
		x := anyTown(pick, 2+pick.IntN(6), pick.IntN(12), 0, 1, 1)
		closed := anyClosed(pick, x)
		from, to := pick.IntN(len(x.Rooms)), pick.IntN(len(x.Rooms))
		got, e := crowd.Way(x, closed, from, to)
		want := wayOf(x, closed, from, to)
		if !slices.Equal(got, want) || (e == api.OK) != (want != nil) {
			t.Error(x, closed, from, to, got, want, e)
		}
		if e != api.OK {
			none++
			if e != api.ErrMissing {
				t.Error(x, closed, from, to, e)
			}
		} else if !isWay(x, closed, got) || got[0] != from || got[len(got)-1] != to {
			t.Error(x, closed, from, to, got)
		}
		if len(got) > 2 {
			long++
		}
		if len(closed) == 0 {
			continue
		}
		i := pick.IntN(len(closed))
		other, e2 := crowd.Way(x, slices.Delete(slices.Clone(closed), i, i+1), from, to)
		if e == api.OK && (e2 != api.OK || len(other) > len(got)) {
			t.Error(x, closed, from, to, got, other, e2)
		}
		if e2 == api.OK && len(other) != len(got) {
			shorter++
		}
	}
	if long < 100 || none < 100 || shorter < 50 {
		t.Error("few ways of a kind:", long, none, shorter)
	}
}
