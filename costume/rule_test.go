package costume_test

import (
	"math"
	"reflect"
	"slices"
	"strings"
	"testing"

	"bateria/api"
	"bateria/costume"
)

var strange = []int{math.MinInt, math.MinInt + 1, -1, 0, 1, 2, 300, api.MaxMinute, math.MaxInt - 1, math.MaxInt}

// P1 and R5: any values are taken, and all functions return; R3: with an error the other results are zero values.
func TestStrangeArguments(t *testing.T) {
	for _, a := range strange {
		for _, b := range strange {
			for _, p := range []api.Plot{
				changed(func(p *api.Plot) { p.Persons[1] = span(a, b) }),
				changed(func(p *api.Plot) { p.Walk[0][1], p.Walk[1][0] = a, b }),
				changed(func(p *api.Plot) { p.Walk[1] = []int{a, b} }),
				changed(func(p *api.Plot) { p.Dress = []int{a, b} }),
				changed(func(p *api.Plot) { p.Parts[1].Person, p.Parts[1].Place = a, b }),
				changed(func(p *api.Plot) { p.Parts[1].Place, p.Parts[1].Kind = a, b }),
				changed(func(p *api.Plot) { p.Parts[1].From, p.Parts[1].To = a, b }),
				changed(func(p *api.Plot) { p.Parts[2].From, p.Parts[2].To = a, b }),
				changed(func(p *api.Plot) { p.Parts = append(p.Parts, part(a, b, a, b, a)) }),
				{Persons: make([]api.Span, 1000), Walk: make([][]int, 1000), Dress: []int{a, b}},
				{Persons: []api.Span{one(1)}, Walk: [][]int{{0}, nil, {a, b}}, Parts: make([]api.Part, 1000)},
			} {
				askAll(t, p, rack(), []int{0, 1, 2}, 0, 110)
			}
			items := changedRack(func(items []api.Item) { items[0].Fits, items[1].Cost, items[1].Clean = span(a, b), a, b })
			askAll(t, troupe(), items, []int{0, 1, a}, a, b)
			askAll(t, troupe(), rack(), []int{a, b, a}, a, b)
			askAll(t, troupe(), rack(), []int{0, 1, 2, a, b}, b, a)
			askAll(t, troupe(), []api.Item{{Kind: a, Fits: one(41), Cost: b}}, nil, a, b)
		}
	}
	for _, text := range []string{"\x00", "\xff\xfe\n", strings.Repeat("\n", 2000), strings.Repeat(" ", 2000), "persons" + strings.Repeat(" ", 1990) + "\n", head + "part \xff 0 0 1 2\nend 1\n"} {
		if p, _, e := costume.Read(text); e == api.OK || !reflect.DeepEqual(p, api.Plot{}) {
			t.Errorf("Read %q %v %v", text, p, e)
		}
	}
}

// askAll asks all functions about a plot, and looks for results beside an error.
func askAll(t *testing.T, p api.Plot, items []api.Item, wear []int, number, minute int) {
	t.Helper()
	if l, e := costume.Day(p, number); e != api.OK && len(l) > 0 {
		t.Error("Day", p, number, l, e)
	}
	if n, e := costume.At(p, number, minute); e != api.OK && n != 0 {
		t.Error("At", p, number, minute, n, e)
	}
	if n, m, e := costume.Most(p, number); e != api.OK && (n != 0 || m != 0) {
		t.Error("Most", p, number, n, m, e)
	}
	if v, e := costume.Fit(p, items, number, minute); e != api.OK && v != 0 {
		t.Error("Fit", p, items, number, minute, v, e)
	}
	if n, e := costume.Cost(p, items, wear); e != api.OK && n != 0 || e != costume.CheckWear(p, items, wear) {
		t.Error("Cost", p, items, wear, n, e)
	}
	if l, n, e := costume.Cheapest(p, items); e != api.OK && (len(l) > 0 || n != 0) {
		t.Error("Cheapest", p, items, l, n, e)
	}
	if l, e := costume.Short(p, items); e != api.OK && len(l) > 0 {
		t.Error("Short", p, items, l, e)
	}
	if text, e := costume.Write(p); e != api.OK && text != "" {
		t.Error("Write", p, text, e)
	}
}

// R4: arguments are not changed, not even behind their ends, and results are new memory.
func TestMemory(t *testing.T) {
	// there is room behind all lists, which belongs to the caller
	p, items, wear := troupe(), rack(), []int{0, 1, 2, 7, 7}
	p.Persons = append(p.Persons, one(7), one(7))[:2]
	p.Walk = append(p.Walk, []int{7}, []int{7})[:2]
	p.Walk[0] = append(p.Walk[0], 7, 7)[:2]
	p.Dress = append(p.Dress, 7, 7)[:2]
	p.Parts = append(p.Parts, part(7, 7, 7, 7, 7), part(7, 7, 7, 7, 7))[:3]
	items = append(items, api.Item{Cost: 7}, api.Item{Cost: 7})[:3]
	for range 2 { // a second time, after the results of the first one were changed
		askAll(t, p, items, wear[:3], 0, 119)
		day, _ := costume.Day(p, 0)
		chosen, _, _ := costume.Cheapest(p, items)
		parts, _ := costume.Short(p, items[1:])
		read, _, _ := costume.Read(sheet)
		if !slices.Equal(day, []int{0, 2}) || !slices.Equal(chosen, []int{0, 1, 2}) || !slices.Equal(parts, []int{0, 1}) || !same(read, troupe()) {
			t.Error(day, chosen, parts, read)
		}
		day[0], chosen[0], parts[0] = 9, 9, 9
		read.Persons[0], read.Walk[0][1], read.Dress[0], read.Parts[0].To = one(9), 9, 9, 9
	}
	if !same(p, troupe()) || !slices.Equal(items, rack()) || !slices.Equal(wear, []int{0, 1, 2, 7, 7}) {
		t.Error(p, items, wear)
	}
	behind := p.Persons[:4][2] == one(7) && p.Persons[:4][3] == one(7) && p.Walk[:4][2][0] == 7 && p.Walk[0][:4][2] == 7 && p.Dress[:4][2] == 7 && p.Parts[:5][3].To == 7 && items[:5][3].Cost == 7
	if !behind {
		t.Error(p.Persons[:4], p.Walk[:4], p.Dress[:4], p.Parts[:5], items[:5])
	}
}

// R4: the rows of a plot that is read share no memory with each other.
func TestRowsApart(t *testing.T) {
	p, _, e := costume.Read("persons 4 5\nwalk 0 1\nwalk 2 0\ndress 3 4\nend 0\n")
	if e != api.OK {
		t.Fatal(e)
	}
	_ = append(p.Walk[0], 9)
	_ = append(p.Walk[1], 9)
	_ = append(p.Dress, 9)
	if !slices.Equal(p.Walk[0], []int{0, 1}) || !slices.Equal(p.Walk[1], []int{2, 0}) || !slices.Equal(p.Dress, []int{3, 4}) {
		t.Error(p)
	}
}

// R4: a nil slice and an empty one are equal.
func TestEmpty(t *testing.T) {
	none, empty := troupe(), troupe()
	none.Parts, empty.Parts = nil, []api.Part{}
	for _, p := range []api.Plot{none, empty} {
		for _, items := range [][]api.Item{nil, {}} {
			for _, wear := range [][]int{nil, {}} {
				if n, e := costume.Cost(p, items, wear); n != 0 || e != api.OK {
					t.Error(p, items, wear, n, e)
				}
			}
			wear, cost, e := costume.Cheapest(p, items)
			parts, e2 := costume.Short(p, items)
			if len(wear)+len(parts)+cost > 0 || e != api.OK || e2 != api.OK {
				t.Error(p, items, wear, cost, e, parts, e2)
			}
		}
		text, e := costume.Write(p)
		if text != "persons 40 42 44 44\nwalk 0 5\nwalk 5 0\ndress 10 20\nend 0\n" || e != api.OK {
			t.Error(text, e)
		}
	}
}

// R7: the greatest sums are exact, and the greatest numbers of parts and items take no time to try.
func TestGreatest(t *testing.T) {
	items := slices.Repeat([]api.Item{{Fits: one(9), Cost: 1000000, Clean: 1440}}, 30)
	p := crew(12)
	p.Walk, p.Parts = [][]int{{0}}, nil
	wear := []int{}
	for i := range 30 {
		p.Parts = append(p.Parts, part(i%12, 0, 0, 30*i, 30*i+1))
		wear = append(wear, i)
	}
	if n, e := costume.Cost(p, items, wear); n != 30000000 || e != api.OK {
		t.Error(n, e)
	}
	// a million lists of items, none of which is valid in the last part
	hopeless := crew(6)
	hopeless.Persons[5] = one(8)
	coats := slices.Repeat([]api.Item{coat(0, 0)}, 10)
	if wear, cost, e := costume.Cheapest(hopeless, coats); len(wear) > 0 || cost != 0 || e != api.ErrMissing {
		t.Error(wear, cost, e)
	}
	if parts, e := costume.Short(hopeless, coats); !slices.Equal(parts, []int{5}) || e != api.OK {
		t.Error(parts, e)
	}
	// the cheapest one is the last of a million
	for i := range coats {
		coats[i].Cost = 10 * (10 - i)
	}
	if wear, cost, e := costume.Cheapest(crew(6), coats); !slices.Equal(wear, []int{9, 9, 9, 9, 9, 9}) || cost != 10 || e != api.OK {
		t.Error(wear, cost, e)
	}
}
