package costume_test

import (
	"math/rand/v2"
	"slices"
	"testing"

	"bateria/api"
	"bateria/costume"
	"bateria/parade"
)

// P3.1 and P3.5: a plot is valid just if in each minute a person has at most one part, and there is time for way and costume between any two.
func TestOnePlace(t *testing.T) {
	seen := map[api.Errno]int{}
	pick := rand.New(rand.NewPCG(7, 8))
	for _, x := range trials(2000, 5, 0) {
		p := x.p
		p.Parts = append(slices.Clone(p.Parts), smallPart(pick, p))
		e := costume.Check(p)
		seen[e]++
		if want := partsError(p); e != want {
			t.Error(p, e, want)
		}
	}
	if seen[api.OK] < 100 || seen[api.ErrClash] < 100 || seen[api.ErrLate] < 100 || len(seen) != 3 {
		t.Error("few plots of a kind:", seen)
	}
	for _, x := range trials(200, 8, 0) {
		for person := range x.p.Persons {
			day, e := costume.Day(x.p, person)
			if e != api.OK {
				t.Fatal(x.p, e)
			}
			for i := 1; i < len(day); i++ {
				a, b := x.p.Parts[day[i-1]], x.p.Parts[day[i]]
				needed := x.p.Walk[a.Place][b.Place]
				if a.Kind != b.Kind {
					needed += x.p.Dress[b.Kind]
				}
				if b.From < a.To+needed {
					t.Error(x.p, day)
				}
			}
			holdsMinutes(t, x.p, person, day)
		}
	}
}

// holdsMinutes compares At with all parts in all minutes.
func holdsMinutes(t *testing.T, p api.Plot, person int, day []int) {
	t.Helper()
	begun := []int{}
	for minute := range api.MaxMinute + 1 {
		want := []int{}
		for i, x := range p.Parts {
			if x.Person == person && on(x, minute) {
				want = append(want, i)
			}
		}
		if len(want) == 0 {
			want = []int{-1}
		}
		at, e := costume.At(p, person, minute)
		if len(want) != 1 || at != want[0] || e != api.OK {
			t.Error(p, person, minute, at, e, want)
		}
		if at >= 0 && !slices.Contains(begun, at) {
			begun = append(begun, at)
		}
	}
	if !slices.Equal(begun, day) {
		t.Error(p, person, day, begun)
	}
}

// most goes through all minutes.
func most(p api.Plot, kind int) (many, minute int) {
	for at := range api.MaxMinute + 1 {
		n := 0
		for _, x := range p.Parts {
			if x.Kind == kind && on(x, at) {
				n++
			}
		}
		if n > many {
			many, minute = n, at
		}
	}
	return many, minute
}

// P3.6: if parts stand in another order, the plot is valid too, and Day, At and Most say the same of them.
func TestAnyOrder(t *testing.T) {
	pick := rand.New(rand.NewPCG(9, 10))
	for _, x := range trials(300, 8, 0) {
		p := x.p
		order := pick.Perm(len(p.Parts)) // which part is where
		mixed := only(p, order)
		if e := costume.Check(mixed); e != api.OK {
			t.Error(mixed, e)
		}
		for person := range p.Persons {
			day, _ := costume.Day(p, person)
			other, e := costume.Day(mixed, person)
			for i := range other {
				other[i] = order[other[i]]
			}
			if !slices.Equal(day, other) || e != api.OK {
				t.Error(p, order, day, other, e)
			}
			for minute := range 80 {
				a, _ := costume.At(p, person, minute)
				b, e := costume.At(mixed, person, minute)
				if b >= 0 {
					b = order[b]
				}
				if a != b || e != api.OK {
					t.Error(p, order, minute, a, b, e)
				}
			}
		}
		for kind := range p.Dress {
			many, minute := most(p, kind)
			for _, q := range []api.Plot{p, mixed} {
				if n, at, e := costume.Most(q, kind); n != many || at != minute || e != api.OK {
					t.Error(q, kind, n, at, e, many, minute)
				}
			}
		}
	}
}

// P0 and P3.7: whatever the size of a person truly is, an item that fits surely does, one that never fits does not, and Open has both.
func TestFits(t *testing.T) {
	sizes := []api.Span{}
	for low := 3; low < 7; low++ {
		for high := low; high < 7; high++ {
			sizes = append(sizes, span(low, high))
		}
	}
	seen := map[int]int{}
	for _, size := range sizes {
		p := crew(1)
		p.Persons[0] = size
		for low := 1; low < 9; low++ {
			for high := low; high < 9; high++ {
				items := []api.Item{{Fits: span(low, high)}}
				v, e := costume.Fit(p, items, 0, 0)
				if want := fits(items[0], size); v != want || e != api.OK {
					t.Error(size, items, v, e)
				}
				seen[v]++
				for truly := size.Lo; truly <= size.Hi; truly++ {
					p.Persons[0] = one(truly)
					known, _ := costume.Fit(p, items, 0, 0)
					if known == open || v != open && known != v {
						t.Error(size, items, v, truly, known)
					}
					p.Persons[0] = size
				}
			}
		}
	}
	if len(seen) != 3 {
		t.Error(seen)
	}
}

// P3.2 and P3.8: a wear is valid just if each item is of its kind and fits, no item is on two persons while it is worn or cleaned, and no costume is changed faster than one can.
func TestOneCostume(t *testing.T) {
	seen := map[api.Errno]int{}
	for _, x := range trials(300, 4, 4) {
		for wear := range lists(len(x.p.Parts), len(x.items)) {
			e := costume.CheckWear(x.p, x.items, wear)
			seen[e]++
			if want := wearError(x.p, x.items, wear); e != want {
				t.Error(x, wear, e, want)
			}
			cost, e2 := costume.Cost(x.p, x.items, wear)
			if e2 != e || e == api.OK && cost != costs(x.items, wear) || e != api.OK && cost != 0 {
				t.Error(x, wear, cost, e2)
			}
			if e != api.OK {
				continue
			}
			for i, a := range x.p.Parts {
				for j, b := range x.p.Parts[:i] {
					if wear[i] == wear[j] && a.Person != b.Person && together(a, b) {
						t.Error(x, wear, i, j)
					}
				}
			}
		}
	}
	for _, e := range []api.Errno{api.OK, api.ErrKind, api.ErrClash, api.ErrOpen, api.ErrLate, api.ErrState} {
		if seen[e] < 20 {
			t.Error("few wears of a kind:", seen)
		}
	}
}

// P3.9: no valid wear costs less than the cheapest one, or as much and comes before; with one more item, or one part less, none costs more.
func TestAllWears(t *testing.T) {
	found, missing := 0, 0
	for _, x := range trials(300, 4, 5) {
		wear, cost, e := costume.Cheapest(x.p, x.items)
		want, least, e2 := cheapest(x.p, x.items)
		if !slices.Equal(wear, want) || cost != least || e != e2 {
			t.Error(x, wear, cost, e, want, least, e2)
		}
		if e != api.OK {
			missing++
			continue
		}
		found++
		if n, e := costume.Cost(x.p, x.items, wear); n != cost || e != api.OK {
			t.Error(x, wear, cost, n, e)
		}
		more := append(slices.Clone(x.items), api.Item{Kind: 0, Fits: span(1, 9), Cost: 1})
		if _, n, e := costume.Cheapest(x.p, more); n > cost || e != api.OK {
			t.Error(x, more, n, e)
		}
		for i := range x.p.Parts {
			less := x.p
			less.Parts = slices.Delete(slices.Clone(x.p.Parts), i, i+1)
			if _, n, e := costume.Cheapest(less, x.items); n > cost || e != api.OK {
				t.Error(x, i, n, e)
			}
		}
	}
	if found < 50 || missing < 50 {
		t.Error("few wears, or few that are missing:", found, missing)
	}
}

// P3.10: the parts of Short have no valid wear, any fewer ones do; there is one exactly if there is no Cheapest.
func TestShort(t *testing.T) {
	longs := map[int]int{}
	for i, x := range trials(600, 5, 3) {
		if i%3 > 0 { // what is short is time
			for j := range x.items {
				x.items[j].Fits, x.items[j].Clean = span(1, 9), 40*(i%2)
			}
		}
		parts, e := costume.Short(x.p, x.items)
		if want := short(x.p, x.items); !slices.Equal(parts, want) || e != api.OK {
			t.Error(x, parts, e, want)
		}
		longs[len(parts)]++
		_, _, e = costume.Cheapest(x.p, x.items)
		if (e == api.ErrMissing) != (len(parts) > 0) {
			t.Error(x, parts, e)
		}
		if len(parts) == 0 {
			continue
		}
		if _, _, e := costume.Cheapest(only(x.p, parts), x.items); e != api.ErrMissing {
			t.Error(x, parts, e)
		}
		for i := range parts {
			fewer := slices.Delete(slices.Clone(parts), i, i+1)
			if _, _, e := costume.Cheapest(only(x.p, fewer), x.items); e != api.OK {
				t.Error(x, parts, fewer, e)
			}
		}
	}
	if longs[0] < 20 || longs[1] < 20 || longs[2] < 20 || longs[3] == 0 {
		t.Error("few parts of a number:", longs)
	}
}

// P3.11: if a kind has fewer items than Most says, there is no valid wear.
func TestEnough(t *testing.T) {
	few := 0
	for _, x := range trials(400, 4, 4) {
		for kind := range x.p.Dress {
			many, _, e := costume.Most(x.p, kind)
			if e != api.OK {
				t.Fatal(x, e)
			}
			items := 0
			for _, i := range x.items {
				if i.Kind == kind {
					items++
				}
			}
			if items >= many {
				continue
			}
			few++
			if wear, _, e := costume.Cheapest(x.p, x.items); e != api.ErrMissing {
				t.Error(x, kind, many, wear, e)
			}
			if parts, e := costume.Short(x.p, x.items); len(parts) == 0 || e != api.OK {
				t.Error(x, kind, many, parts, e)
			}
		}
	}
	if few < 50 {
		t.Error("few kinds with too few items:", few)
	}
}

// T1: a person whose parts are wings, as long as they may be on the avenue, is in no two of them, whatever the paces truly are.
func TestOneWing(t *testing.T) {
	valid, clash := 0, 0
	for first := 1; first <= 4; first++ {
		for wait := 0; wait < 400; wait += 20 {
			s := api.School{Route: 500, Wings: []api.Wing{
				{Name: "front", Length: 20, Pace: span(first, first+1)},
				{Name: "back", Length: 30, Pace: span(2, 3)},
			}}
			starts := []int{0, 20 + wait}
			p := api.Plot{Persons: []api.Span{one(40)}, Walk: [][]int{{0}}, Dress: []int{0}}
			for wing := range s.Wings {
				passes, e := parade.Passes(s, starts, wing, s.Route+s.Wings[wing].Length)
				if e != api.OK {
					t.Fatal(s, starts, e)
				}
				p.Parts = append(p.Parts, part(0, 0, 0, starts[wing]/60, passes.Hi/60+1))
			}
			if costume.Check(p) != api.OK {
				clash++
				continue
			}
			valid++
			for a := first; a <= first+1; a++ {
				for b := 2; b <= 3; b++ {
					s.Wings[0].Pace, s.Wings[1].Pace = one(a), one(b)
					gone, e := parade.Passes(s, starts, 0, s.Route+s.Wings[0].Length)
					if gone.Hi > starts[1] || e != api.OK {
						t.Error(s, starts, gone, e)
					}
				}
			}
		}
	}
	if valid < 10 || clash < 10 {
		t.Error("few plots are valid, or clash:", valid, clash)
	}
}
