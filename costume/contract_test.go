package costume_test

import (
	"slices"
	"testing"

	"bateria/api"
	"bateria/costume"
)

var plots = []struct {
	about  string
	change func(p *api.Plot)
	want   api.Errno
}{
	{"the example", func(p *api.Plot) {}, api.OK},
	{"nothing", func(p *api.Plot) { *p = api.Plot{} }, api.ErrShort},
	{"least numbers", func(p *api.Plot) {
		*p = api.Plot{Persons: []api.Span{one(1)}, Walk: [][]int{{0}}, Dress: []int{0}, Parts: []api.Part{part(0, 0, 0, 0, 1)}}
	}, api.OK},
	{"greatest numbers", func(p *api.Plot) { *p = greatest() }, api.OK},
	// persons
	{"no persons", func(p *api.Plot) { p.Persons = nil }, api.ErrShort},
	{"no persons, not nil", func(p *api.Plot) { p.Persons = []api.Span{} }, api.ErrShort},
	{"no persons before a way", func(p *api.Plot) { p.Persons, p.Walk[0][0] = nil, 1 }, api.ErrShort},
	{"as many persons as may be", func(p *api.Plot) { p.Persons = slices.Repeat(p.Persons, 6) }, api.OK},
	{"too many persons", func(p *api.Plot) { p.Persons = slices.Repeat(p.Persons[:1], 13) }, api.ErrFull},
	{"too many persons before their sizes", func(p *api.Plot) { p.Persons = make([]api.Span, 13) }, api.ErrFull},
	{"a least size of 0", func(p *api.Plot) { p.Persons[1] = span(0, 44) }, api.ErrRange},
	{"a size of 0", func(p *api.Plot) { p.Persons[1] = one(0) }, api.ErrRange},
	{"a size below 0", func(p *api.Plot) { p.Persons[1] = span(-1, 44) }, api.ErrRange},
	{"too great a size", func(p *api.Plot) { p.Persons[1] = span(44, 301) }, api.ErrRange},
	{"too great sizes", func(p *api.Plot) { p.Persons[1] = one(301) }, api.ErrRange},
	{"all sizes", func(p *api.Plot) { p.Persons[1] = span(1, 300) }, api.OK},
	{"bounds of a size before its order", func(p *api.Plot) { p.Persons[1] = span(4, 0) }, api.ErrRange},
	{"bounds of a size before its order, above", func(p *api.Plot) { p.Persons[1] = span(301, 300) }, api.ErrRange},
	{"the order of a size", func(p *api.Plot) { p.Persons[1] = span(43, 42) }, api.ErrOrder},
	{"the order of one size before the bounds of the next", func(p *api.Plot) { p.Persons[0], p.Persons[1] = span(5, 4), one(0) }, api.ErrOrder},
	{"the bounds of one size before the order of the next", func(p *api.Plot) { p.Persons[0], p.Persons[1] = one(0), span(5, 4) }, api.ErrRange},
	{"a size before places", func(p *api.Plot) { p.Persons[1], p.Walk = span(5, 4), nil }, api.ErrOrder},
	// places
	{"no places", func(p *api.Plot) { p.Walk = nil }, api.ErrShort},
	{"no places before no kinds", func(p *api.Plot) { p.Walk, p.Dress = nil, make([]int, 9) }, api.ErrShort},
	{"as many places as may be", func(p *api.Plot) { p.Walk = ways(8, 5) }, api.OK},
	{"too many places", func(p *api.Plot) { p.Walk = ways(9, 5) }, api.ErrFull},
	{"too many places before their rows", func(p *api.Plot) { p.Walk = make([][]int, 9) }, api.ErrFull},
	{"a row that is too short", func(p *api.Plot) { p.Walk[1] = []int{5} }, api.ErrForm},
	{"a row that is too long", func(p *api.Plot) { p.Walk[1] = []int{5, 0, 5} }, api.ErrForm},
	{"no row", func(p *api.Plot) { p.Walk[1] = nil }, api.ErrForm},
	{"how long a row is before its numbers", func(p *api.Plot) { p.Walk[1] = []int{-1} }, api.ErrForm},
	{"the numbers of one row before how long the next is", func(p *api.Plot) { p.Walk = [][]int{{0, -1}, nil} }, api.ErrRange},
	{"a way below 0", func(p *api.Plot) { p.Walk[1][0] = -1 }, api.ErrRange},
	{"too long a way", func(p *api.Plot) { p.Walk[1][0] = 1441 }, api.ErrRange},
	{"as long a way as may be", func(p *api.Plot) { p.Walk[1][0] = 1440 }, api.OK},
	{"a way to where one is", func(p *api.Plot) { p.Walk[1][1] = 1 }, api.ErrForm},
	{"a way below 0 to where one is", func(p *api.Plot) { p.Walk[1][1] = -1 }, api.ErrRange},
	{"too long a way to where one is", func(p *api.Plot) { p.Walk[1][1] = 1441 }, api.ErrRange},
	{"a way to where one is before the next number", func(p *api.Plot) { p.Walk[0] = []int{1, -1} }, api.ErrForm},
	{"a number before a way to where one is", func(p *api.Plot) { p.Walk[1] = []int{-1, 1} }, api.ErrRange},
	{"a way before kinds", func(p *api.Plot) { p.Walk[1][1], p.Dress = 1, nil }, api.ErrForm},
	// kinds
	{"no kinds", func(p *api.Plot) { p.Dress = nil }, api.ErrShort},
	{"no kinds before parts", func(p *api.Plot) { p.Dress, p.Parts = nil, make([]api.Part, 31) }, api.ErrShort},
	{"as many kinds as may be", func(p *api.Plot) { p.Dress = slices.Repeat(p.Dress, 4) }, api.OK},
	{"too many kinds", func(p *api.Plot) { p.Dress = make([]int, 9) }, api.ErrFull},
	{"too many kinds before their numbers", func(p *api.Plot) { p.Dress = slices.Repeat([]int{-1}, 9) }, api.ErrFull},
	{"minutes of a kind below 0", func(p *api.Plot) { p.Dress[0] = -1 }, api.ErrRange},
	{"too many minutes of a kind", func(p *api.Plot) { p.Dress[1] = 1441 }, api.ErrRange},
	{"as many minutes of a kind as may be", func(p *api.Plot) { p.Dress[0] = 1440 }, api.OK},
	{"a kind before parts", func(p *api.Plot) { p.Dress[1], p.Parts = -1, make([]api.Part, 31) }, api.ErrRange},
	// parts
	{"no parts", func(p *api.Plot) { p.Parts = nil }, api.OK},
	{"no parts, not nil", func(p *api.Plot) { p.Parts = []api.Part{} }, api.OK},
	{"as many parts as may be", func(p *api.Plot) { p.Parts = row(30) }, api.OK},
	{"too many parts", func(p *api.Plot) { p.Parts = row(31) }, api.ErrFull},
	{"too many parts before what they are", func(p *api.Plot) { p.Parts = make([]api.Part, 31) }, api.ErrFull},
	{"a person who is not", func(p *api.Plot) { p.Parts[1].Person = 2 }, api.ErrMissing},
	{"a person below 0", func(p *api.Plot) { p.Parts[1].Person = -1 }, api.ErrMissing},
	{"a place that is not", func(p *api.Plot) { p.Parts[1].Place = 2 }, api.ErrMissing},
	{"a place below 0", func(p *api.Plot) { p.Parts[1].Place = -1 }, api.ErrMissing},
	{"a kind that is not", func(p *api.Plot) { p.Parts[1].Kind = 2 }, api.ErrMissing},
	{"a kind below 0", func(p *api.Plot) { p.Parts[1].Kind = -1 }, api.ErrMissing},
	{"a kind before minutes", func(p *api.Plot) { p.Parts[1].Kind, p.Parts[1].From = 2, -1 }, api.ErrMissing},
	{"a person before the order", func(p *api.Plot) { p.Parts[1].Person, p.Parts[1].From = 2, 130 }, api.ErrMissing},
	{"a beginning below 0", func(p *api.Plot) { p.Parts[1].From = -1 }, api.ErrRange},
	{"too late a beginning", func(p *api.Plot) { p.Parts[1].From = 1441 }, api.ErrRange},
	{"an end below 0", func(p *api.Plot) { p.Parts[1].To = -1 }, api.ErrRange},
	{"too late an end", func(p *api.Plot) { p.Parts[1].To = 1441 }, api.ErrRange},
	{"all the day", func(p *api.Plot) { p.Parts[1].From, p.Parts[1].To = 0, 1440 }, api.OK},
	{"no minute", func(p *api.Plot) { p.Parts[1].From = 130 }, api.ErrOrder},
	{"no minute at the beginning", func(p *api.Plot) { p.Parts[1].From, p.Parts[1].To = 0, 0 }, api.ErrOrder},
	{"no minute at the end", func(p *api.Plot) { p.Parts[1].From, p.Parts[1].To = 1440, 1440 }, api.ErrOrder},
	{"one minute", func(p *api.Plot) { p.Parts[1].From = 129 }, api.OK},
	{"the wrong order", func(p *api.Plot) { p.Parts[1].From = 131 }, api.ErrOrder},
	{"the order before a clash", func(p *api.Plot) { p.Parts[1] = part(0, 0, 0, 110, 105) }, api.ErrOrder},
	{"the order of one part before the person of the next", func(p *api.Plot) { p.Parts[1].To, p.Parts[2].Person = 110, 9 }, api.ErrOrder},
	{"the person of one part before the order of the next", func(p *api.Plot) { p.Parts[1].Person, p.Parts[2].To = 9, 0 }, api.ErrMissing},
	{"a clash of one part before the person of the next", func(p *api.Plot) { p.Parts[1].Person, p.Parts[2].Person = 0, 9 }, api.ErrClash},
	// two parts of a person
	{"a part in another one", func(p *api.Plot) { p.Parts[2] = part(0, 0, 0, 105, 110) }, api.ErrClash},
	{"a part around another one", func(p *api.Plot) { p.Parts[2] = part(0, 0, 0, 90, 130) }, api.ErrClash},
	{"the same part twice", func(p *api.Plot) { p.Parts[2] = p.Parts[0] }, api.ErrClash},
	{"a part in the last minute of another one", func(p *api.Plot) { p.Parts[2] = part(0, 0, 0, 119, 130) }, api.ErrClash},
	{"a part up to the first minute of another one", func(p *api.Plot) { p.Parts[2] = part(0, 0, 0, 90, 101) }, api.ErrClash},
	{"a clash of kinds and places", func(p *api.Plot) { p.Parts[2].From = 119 }, api.ErrClash},
	{"a part as soon as another one ends", func(p *api.Plot) { p.Parts[2] = part(0, 0, 0, 120, 130) }, api.OK},
	{"a part until another one begins", func(p *api.Plot) { p.Parts[2] = part(0, 0, 0, 90, 100) }, api.OK},
	{"parts of two persons", func(p *api.Plot) { p.Parts[1] = part(1, 1, 1, 100, 120) }, api.OK},
	{"too late for way and costume", func(p *api.Plot) { p.Parts[2].From = 144 }, api.ErrLate},
	{"too late at once", func(p *api.Plot) { p.Parts[2].From = 120 }, api.ErrLate},
	{"in time for the way", func(p *api.Plot) { p.Parts[2].Kind, p.Parts[2].From = 0, 125 }, api.OK},
	{"too late for the way", func(p *api.Plot) { p.Parts[2].Kind, p.Parts[2].From = 0, 124 }, api.ErrLate},
	{"in time for the costume", func(p *api.Plot) { p.Parts[2].Place, p.Parts[2].From = 0, 140 }, api.OK},
	{"too late for the costume", func(p *api.Plot) { p.Parts[2].Place, p.Parts[2].From = 0, 139 }, api.ErrLate},
	{"in time for the costume of the part before it in the list", func(p *api.Plot) { p.Parts[2].From, p.Parts[2].To = 60, 85 }, api.OK},
	{"too late for the costume of the part before it in the list", func(p *api.Plot) { p.Parts[2].From, p.Parts[2].To = 60, 86 }, api.ErrLate},
	{"in time for the way back", func(p *api.Plot) { p.Walk[1][0], p.Parts[2].From, p.Parts[2].To = 7, 60, 83 }, api.OK},
	{"too late for the way back", func(p *api.Plot) { p.Walk[1][0], p.Parts[2].From, p.Parts[2].To = 7, 60, 84 }, api.ErrLate},
	{"a longer way back than there", func(p *api.Plot) { p.Walk[1][0] = 1440 }, api.OK},
	{"too late after a part that is not the last one", func(p *api.Plot) { detour(p, 90) }, api.ErrLate},
	{"in time after all parts", func(p *api.Plot) { detour(p, 80) }, api.OK},
	{"late after one part before a clash with the next", func(p *api.Plot) {
		p.Parts = []api.Part{part(0, 1, 0, 90, 98), part(0, 0, 0, 110, 120), part(0, 0, 0, 100, 112)}
	}, api.ErrLate},
	{"a clash with one part before late after the next", func(p *api.Plot) {
		p.Parts = []api.Part{part(0, 0, 0, 110, 120), part(0, 1, 0, 90, 98), part(0, 0, 0, 100, 112)}
	}, api.ErrClash},
}

// ways are those between places, all of them as long.
func ways(places, minutes int) [][]int {
	walk := make([][]int, places)
	for i := range walk {
		walk[i] = slices.Repeat([]int{minutes}, places)
		walk[i][i] = 0
	}
	return walk
}

// row is parts of one person, one after the other.
func row(many int) []api.Part {
	var parts []api.Part
	for i := range many {
		parts = append(parts, part(0, 0, 0, 2*i, 2*i+1))
	}
	return parts
}

// detour gives a person parts in three places: the straight way between the first and the last of them is longer than over the second one.
func detour(p *api.Plot, minutes int) {
	p.Walk = [][]int{{0, 1, minutes}, {1, 0, 1}, {1, 1, 0}}
	p.Parts = []api.Part{part(0, 0, 0, 0, 10), part(0, 1, 0, 20, 80), part(0, 2, 0, 90, 95)}
}

// greatest is a plot whose numbers are as great as they may be.
func greatest() api.Plot {
	p := api.Plot{
		Persons: slices.Repeat([]api.Span{one(300)}, 12),
		Walk:    ways(8, 1440),
		Dress:   slices.Repeat([]int{1440}, 8),
	}
	for i := range 30 {
		p.Parts = append(p.Parts, part(11, 7, 7, 1410+i, 1411+i))
	}
	return p
}

// P3.1: Check returns the first error of a plot, and so does each function first of all; R3: the other results are zero values then.
func TestCheck(t *testing.T) {
	wrong := make([]api.Item, 31)
	for _, c := range plots {
		p := changed(c.change)
		if e := costume.Check(p); e != c.want {
			t.Error(c.about, e)
		}
		if c.want == api.OK {
			continue
		}
		day, e1 := costume.Day(p, -1)
		at, e2 := costume.At(p, -1, -1)
		many, minute, e3 := costume.Most(p, -1)
		e4 := costume.CheckItems(p, wrong)
		fit, e5 := costume.Fit(p, wrong, -1, -1)
		e6 := costume.CheckWear(p, wrong, nil)
		sum, e7 := costume.Cost(p, wrong, nil)
		wear, cost, e8 := costume.Cheapest(p, wrong)
		parts, e9 := costume.Short(p, wrong)
		text, e10 := costume.Write(p)
		for i, e := range []api.Errno{e1, e2, e3, e4, e5, e6, e7, e8, e9, e10} {
			if e != c.want {
				t.Error(c.about, i+1, e)
			}
		}
		if len(day)+len(wear)+len(parts) > 0 || at != 0 || many != 0 || minute != 0 || fit != 0 || sum != 0 || cost != 0 || text != "" {
			t.Error(c.about, day, at, many, minute, fit, sum, wear, cost, parts, text)
		}
	}
}

// P3.1: Day.
func TestDay(t *testing.T) {
	for _, c := range []struct {
		about  string
		change func(p *api.Plot)
		person int
		want   []int
		e      api.Errno
	}{
		{"the example", func(p *api.Plot) {}, 0, []int{0, 2}, api.OK},
		{"another person", func(p *api.Plot) {}, 1, []int{1}, api.OK},
		{"nobody", func(p *api.Plot) {}, 2, nil, api.ErrMissing},
		{"a person below 0", func(p *api.Plot) {}, -1, nil, api.ErrMissing},
		{"no parts", func(p *api.Plot) { p.Parts = nil }, 1, nil, api.OK},
		{"no part of a person", func(p *api.Plot) { p.Parts = p.Parts[:1] }, 1, nil, api.OK},
		{"a later part before in the list", func(p *api.Plot) { p.Parts[0], p.Parts[2] = p.Parts[2], p.Parts[0] }, 0, []int{2, 0}, api.OK},
		{"many parts", func(p *api.Plot) { p.Parts = row(9); slices.Reverse(p.Parts[2:7]) }, 0, []int{0, 1, 6, 5, 4, 3, 2, 7, 8}, api.OK},
	} {
		p := changed(c.change)
		if day, e := costume.Day(p, c.person); !slices.Equal(day, c.want) || e != c.e {
			t.Error(c.about, day, e)
		}
	}
}

// P3.1: At.
func TestAt(t *testing.T) {
	for _, c := range []struct {
		person, minute, want int
		e                    api.Errno
	}{
		{0, 119, 0, api.OK},
		{0, 120, -1, api.OK},
		{0, 100, 0, api.OK},
		{0, 99, -1, api.OK},
		{0, 145, 2, api.OK},
		{0, 159, 2, api.OK},
		{0, 160, -1, api.OK},
		{1, 110, 1, api.OK},
		{1, 100, -1, api.OK},
		{0, 0, -1, api.OK},
		{0, 1440, -1, api.OK},
		{0, 1441, 0, api.ErrRange},
		{0, -1, 0, api.ErrRange},
		{2, 119, 0, api.ErrMissing},
		{-1, 119, 0, api.ErrMissing},
		{2, 1441, 0, api.ErrMissing},
		{-1, -1, 0, api.ErrMissing},
	} {
		if n, e := costume.At(troupe(), c.person, c.minute); n != c.want || e != c.e {
			t.Error(c.person, c.minute, n, e)
		}
	}
	day := changed(func(p *api.Plot) { p.Parts = []api.Part{part(1, 0, 0, 0, 1440)} })
	for minute, want := range map[int]int{0: 0, 1439: 0, 1440: -1} {
		if n, e := costume.At(day, 1, minute); n != want || e != api.OK {
			t.Error(minute, n, e)
		}
	}
}

// P3.1: Most.
func TestMost(t *testing.T) {
	for _, c := range []struct {
		about              string
		change             func(p *api.Plot)
		kind, many, minute int
		e                  api.Errno
	}{
		{"the example", func(p *api.Plot) {}, 0, 2, 110, api.OK},
		{"another kind", func(p *api.Plot) {}, 1, 1, 145, api.OK},
		{"a kind that is not", func(p *api.Plot) {}, 2, 0, 0, api.ErrMissing},
		{"a kind below 0", func(p *api.Plot) {}, -1, 0, 0, api.ErrMissing},
		{"no parts", func(p *api.Plot) { p.Parts = nil }, 0, 0, 0, api.OK},
		{"no part of the kind", func(p *api.Plot) { p.Parts = p.Parts[:2] }, 1, 0, 0, api.OK},
		{"one after the other", func(p *api.Plot) { p.Parts[1].From = 120 }, 0, 1, 100, api.OK},
		{"together in one minute", func(p *api.Plot) { p.Parts[1].From = 119 }, 0, 2, 119, api.OK},
		{"together from the later beginning on", func(p *api.Plot) { p.Parts[1].From = 0 }, 0, 2, 100, api.OK},
		{"as many twice", func(p *api.Plot) { p.Parts = append(p.Parts, part(0, 0, 0, 20, 30), part(1, 0, 0, 22, 25)) }, 0, 2, 22, api.OK},
		{"in the first minute", func(p *api.Plot) { p.Parts[1].From, p.Parts[1].To = 0, 1 }, 0, 1, 0, api.OK},
		{"in the last minute", func(p *api.Plot) { p.Parts = []api.Part{part(1, 0, 1, 1439, 1440)} }, 1, 1, 1439, api.OK},
	} {
		if many, minute, e := costume.Most(changed(c.change), c.kind); many != c.many || minute != c.minute || e != c.e {
			t.Error(c.about, many, minute, e)
		}
	}
}

var racks = []struct {
	about  string
	change func(items []api.Item)
	want   api.Errno
}{
	{"the example", func(items []api.Item) {}, api.OK},
	{"least numbers", func(items []api.Item) { items[1] = api.Item{Fits: one(1)} }, api.OK},
	{"greatest numbers", func(items []api.Item) { items[1] = api.Item{Kind: 1, Fits: one(300), Cost: 1000000, Clean: 1440} }, api.OK},
	{"a kind that is not", func(items []api.Item) { items[1].Kind = 2 }, api.ErrMissing},
	{"a kind below 0", func(items []api.Item) { items[1].Kind = -1 }, api.ErrMissing},
	{"a kind before sizes", func(items []api.Item) { items[1].Kind, items[1].Fits = 2, one(0) }, api.ErrMissing},
	{"a size of 0", func(items []api.Item) { items[1].Fits = span(0, 5) }, api.ErrRange},
	{"a size below 0", func(items []api.Item) { items[1].Fits = span(-1, 5) }, api.ErrRange},
	{"too great a size", func(items []api.Item) { items[1].Fits = span(5, 301) }, api.ErrRange},
	{"bounds of sizes before their order", func(items []api.Item) { items[1].Fits = span(5, 0) }, api.ErrRange},
	{"bounds of sizes before their order, above", func(items []api.Item) { items[1].Fits = span(301, 5) }, api.ErrRange},
	{"all sizes", func(items []api.Item) { items[1].Fits = span(1, 300) }, api.OK},
	{"the order of sizes", func(items []api.Item) { items[1].Fits = span(6, 5) }, api.ErrOrder},
	{"the order of sizes before the cost", func(items []api.Item) { items[1].Fits, items[1].Cost = span(6, 5), -1 }, api.ErrOrder},
	{"the order of sizes before cleaning", func(items []api.Item) { items[1].Fits, items[1].Clean = span(6, 5), -1 }, api.ErrOrder},
	{"a cost below 0", func(items []api.Item) { items[1].Cost = -1 }, api.ErrRange},
	{"too high a cost", func(items []api.Item) { items[1].Cost = 1000001 }, api.ErrRange},
	{"cleaning below 0", func(items []api.Item) { items[1].Clean = -1 }, api.ErrRange},
	{"too long a cleaning", func(items []api.Item) { items[1].Clean = 1441 }, api.ErrRange},
	{"cleaning of one item before the kind of the next", func(items []api.Item) { items[0].Clean, items[1].Kind = 1441, 2 }, api.ErrRange},
	{"the kind of one item before the order of the next", func(items []api.Item) { items[0].Kind, items[1].Fits = 2, span(6, 5) }, api.ErrMissing},
	{"the last item", func(items []api.Item) { items[2].Kind = 2 }, api.ErrMissing},
}

// P3.2: CheckItems, and its errors in all functions that have items.
func TestCheckItems(t *testing.T) {
	for _, c := range racks {
		asksItems(t, c.about, changedRack(c.change), c.want)
	}
	asksItems(t, "no items", nil, api.OK)
	asksItems(t, "as many items as may be", slices.Repeat(rack(), 10), api.OK)
	asksItems(t, "too many items", slices.Repeat(rack()[:1], 31), api.ErrFull)
	asksItems(t, "too many items before what they are", make([]api.Item, 31), api.ErrFull)
}

func asksItems(t *testing.T, about string, items []api.Item, want api.Errno) {
	t.Helper()
	if e := costume.CheckItems(troupe(), items); e != want {
		t.Error(about, e)
	}
	if want == api.OK {
		return
	}
	many := changed(func(p *api.Plot) { p.Parts = row(7) })
	fit, e1 := costume.Fit(troupe(), items, -1, -1)
	e2 := costume.CheckWear(troupe(), items, nil)
	sum, e3 := costume.Cost(troupe(), items, nil)
	wear, cost, e4 := costume.Cheapest(many, items)
	parts, e5 := costume.Short(many, items)
	for i, e := range []api.Errno{e1, e2, e3, e4, e5} {
		if e != want {
			t.Error(about, i+1, e)
		}
	}
	if fit != 0 || sum != 0 || cost != 0 || len(wear)+len(parts) > 0 {
		t.Error(about, fit, sum, wear, cost, parts)
	}
}

// P3.2: Fit.
func TestFit(t *testing.T) {
	for _, c := range []struct {
		fits         api.Span
		person, item int
		want         int
		e            api.Errno
	}{
		{span(38, 42), 0, 0, sure, api.OK},
		{span(38, 42), 1, 0, never, api.OK},
		{span(38, 42), 1, 1, sure, api.OK},
		{span(41, 46), 0, 0, open, api.OK},
		{span(40, 42), 0, 0, sure, api.OK},
		{span(40, 41), 0, 0, open, api.OK},
		{span(41, 42), 0, 0, open, api.OK},
		{one(41), 0, 0, open, api.OK},
		{one(40), 0, 0, open, api.OK},
		{one(42), 0, 0, open, api.OK},
		{one(39), 0, 0, never, api.OK},
		{one(43), 0, 0, never, api.OK},
		{span(1, 39), 0, 0, never, api.OK},
		{span(43, 300), 0, 0, never, api.OK},
		{span(1, 40), 0, 0, open, api.OK},
		{span(42, 300), 0, 0, open, api.OK},
		{span(1, 300), 0, 0, sure, api.OK},
		{one(44), 1, 0, sure, api.OK},
		{one(45), 1, 0, never, api.OK},
		// an item of a kind that the person has no part of
		{span(38, 42), 1, 2, sure, api.OK},
		{span(38, 42), 2, 0, 0, api.ErrMissing},
		{span(38, 42), -1, 0, 0, api.ErrMissing},
		{span(38, 42), 0, 3, 0, api.ErrMissing},
		{span(38, 42), 0, -1, 0, api.ErrMissing},
	} {
		items := changedRack(func(items []api.Item) { items[0].Fits = c.fits })
		if v, e := costume.Fit(troupe(), items, c.person, c.item); v != c.want || e != c.e {
			t.Error(c.fits, c.person, c.item, v, e)
		}
	}
	if v, e := costume.Fit(troupe(), nil, 0, 0); v != 0 || e != api.ErrMissing {
		t.Error(v, e)
	}
}

// duo is two parts of which somebody else, or not, has the second one.
func duo(a, b api.Part) api.Plot {
	return changed(func(p *api.Plot) { p.Persons[1], p.Walk[1][0], p.Parts = span(40, 42), 7, []api.Part{a, b} })
}

var wears = []struct {
	about string
	p     api.Plot
	wear  []int
	want  api.Errno
	cost  int
}{
	{"the example", troupe(), []int{0, 1, 2}, api.OK, 160},
	{"too small", troupe(), []int{0, 0, 2}, api.ErrClash, 0},
	{"one item on two persons", troupe(), []int{1, 1, 2}, api.ErrState, 0},
	{"another kind", troupe(), []int{0, 1, 0}, api.ErrKind, 0},
	{"no list", troupe(), nil, api.ErrForm, 0},
	{"too short a list", troupe(), []int{0, 1}, api.ErrForm, 0},
	{"too long a list", troupe(), []int{0, 1, 2, 2}, api.ErrForm, 0},
	{"how long the list is before what is in it", troupe(), []int{9, 9}, api.ErrForm, 0},
	{"an item that is not", troupe(), []int{0, 1, 4}, api.ErrMissing, 0},
	{"an item below 0", troupe(), []int{0, -1, 2}, api.ErrMissing, 0},
	{"a kind before sizes", changed(func(p *api.Plot) { p.Persons[0] = one(1) }), []int{2, 1, 2}, api.ErrKind, 0},
	{"a size that decides nothing", changed(func(p *api.Plot) { p.Persons[0] = span(40, 43) }), []int{0, 1, 2}, api.ErrOpen, 0},
	{"sizes before cleaning", changed(func(p *api.Plot) { p.Persons[1] = span(46, 47) }), []int{1, 1, 2}, api.ErrOpen, 0},
	{"a size of one part before the kind of the next", troupe(), []int{0, 0, 0}, api.ErrClash, 0},
	{"cleaning of one part before the kind of the next", troupe(), []int{1, 1, 9}, api.ErrState, 0},
	{"no parts", changed(func(p *api.Plot) { p.Parts = nil }), nil, api.OK, 0},
	{"something for no parts", changed(func(p *api.Plot) { p.Parts = nil }), []int{0}, api.ErrForm, 0},
	// a person changes from one item to another one: a way of 5 there, 7 back, and 10 to change
	{"the same item at once", duo(part(0, 0, 0, 100, 120), part(0, 0, 0, 120, 130)), []int{1, 1}, api.OK, 80},
	{"another item at once", duo(part(0, 0, 0, 100, 120), part(0, 0, 0, 120, 130)), []int{0, 1}, api.ErrLate, 0},
	{"time to change", duo(part(0, 0, 0, 100, 120), part(0, 0, 0, 130, 140)), []int{0, 1}, api.OK, 130},
	{"no time to change", duo(part(0, 0, 0, 100, 120), part(0, 0, 0, 129, 140)), []int{0, 1}, api.ErrLate, 0},
	{"time for the way, too", duo(part(0, 0, 0, 100, 120), part(0, 1, 0, 135, 140)), []int{0, 1}, api.OK, 130},
	{"no time for the way", duo(part(0, 0, 0, 100, 120), part(0, 1, 0, 134, 140)), []int{0, 1}, api.ErrLate, 0},
	{"the same item on the way", duo(part(0, 0, 0, 100, 120), part(0, 1, 0, 125, 140)), []int{1, 1}, api.OK, 80},
	{"time for the way back", duo(part(0, 0, 0, 117, 120), part(0, 1, 0, 90, 100)), []int{0, 1}, api.OK, 130},
	{"no time for the way back", duo(part(0, 0, 0, 117, 120), part(0, 1, 0, 90, 101)), []int{0, 1}, api.ErrLate, 0},
	{"other kinds", duo(part(0, 0, 0, 100, 120), part(0, 0, 1, 140, 150)), []int{0, 2}, api.OK, 80},
	// somebody else wears an item that is cleaned for 10 minutes
	{"time to clean", duo(part(0, 0, 0, 100, 120), part(1, 0, 0, 130, 140)), []int{1, 1}, api.OK, 80},
	{"no time to clean", duo(part(0, 0, 0, 100, 120), part(1, 0, 0, 129, 140)), []int{1, 1}, api.ErrState, 0},
	{"time to clean after the part behind it", duo(part(0, 0, 0, 130, 140), part(1, 0, 0, 100, 120)), []int{1, 1}, api.OK, 80},
	{"no time to clean after the part behind it", duo(part(0, 0, 0, 129, 140), part(1, 0, 0, 100, 120)), []int{1, 1}, api.ErrState, 0},
	{"no way is needed to clean", duo(part(0, 0, 0, 100, 120), part(1, 1, 0, 130, 140)), []int{1, 1}, api.OK, 80},
	{"nothing to clean", duo(part(0, 0, 0, 100, 120), part(1, 0, 0, 120, 140)), []int{0, 0}, api.OK, 50},
	{"nothing to clean, together", duo(part(0, 0, 0, 100, 120), part(1, 0, 0, 119, 140)), []int{0, 0}, api.ErrState, 0},
	{"both begin together", duo(part(0, 0, 0, 100, 120), part(1, 0, 0, 100, 101)), []int{0, 0}, api.ErrState, 0},
	{"both begin together, the first one is short", duo(part(0, 0, 0, 100, 101), part(1, 0, 0, 100, 120)), []int{0, 0}, api.ErrState, 0},
	{"one in another", duo(part(0, 0, 0, 100, 200), part(1, 0, 0, 120, 121)), []int{0, 0}, api.ErrState, 0},
	{"one around another", duo(part(0, 0, 0, 120, 121), part(1, 0, 0, 100, 200)), []int{0, 0}, api.ErrState, 0},
	{"other items together", duo(part(0, 0, 0, 100, 120), part(1, 0, 0, 100, 120)), []int{0, 1}, api.OK, 130},
	// which of two errors of one part: that with the part that comes first in the list
	{"changing before cleaning", changed(func(p *api.Plot) {
		p.Persons[1], p.Parts = one(41), []api.Part{part(0, 0, 0, 100, 120), part(1, 0, 0, 110, 130), part(0, 0, 0, 121, 122)}
	}), []int{0, 1, 1}, api.ErrLate, 0},
	{"cleaning before changing", changed(func(p *api.Plot) {
		p.Persons[1], p.Parts = one(41), []api.Part{part(1, 0, 0, 110, 130), part(0, 0, 0, 100, 120), part(0, 0, 0, 121, 122)}
	}), []int{1, 0, 1}, api.ErrState, 0},
	{"time to change after a part that is not the last one", relay(150), []int{0, 2, 1}, api.OK, 160},
	{"no time to change after a part that is not the last one", relay(149), []int{0, 2, 1}, api.ErrLate, 0},
	{"the same item after a part that is not the last one", relay(149), []int{1, 2, 1}, api.OK, 110},
}

// relay is three parts of one person: the straight way from the first one to the last one takes longer than over the second one.
func relay(from int) api.Plot {
	return changed(func(p *api.Plot) {
		p.Walk, p.Dress = [][]int{{0, 0, 30}, {0, 0, 0}, {0, 0, 0}}, []int{10, 0}
		p.Parts = []api.Part{part(0, 0, 0, 100, 110), part(0, 1, 1, 112, 114), part(0, 2, 0, from, from+5)}
	})
}

// P3.2: CheckWear and Cost.
func TestCheckWear(t *testing.T) {
	for _, c := range wears {
		if e := costume.Check(c.p); e != api.OK {
			t.Fatal(c.about, e)
		}
		if e := costume.CheckWear(c.p, rack(), c.wear); e != c.want {
			t.Error(c.about, e)
		}
		if n, e := costume.Cost(c.p, rack(), c.wear); n != c.cost || e != c.want {
			t.Error(c.about, n, e)
		}
	}
}

// crew is persons of one size with a part each, one after the other, ten minutes each.
func crew(many int) api.Plot {
	p := api.Plot{Walk: [][]int{{0}}, Dress: []int{0}}
	for i := range many {
		p.Persons = append(p.Persons, one(9))
		p.Parts = append(p.Parts, part(i, 0, 0, 10*i, 10*i+10))
	}
	return p
}

func coat(cost, clean int) api.Item { return api.Item{Fits: one(9), Cost: cost, Clean: clean} }

var choices = []struct {
	about string
	p     api.Plot
	items []api.Item
	wear  []int
	cost  int
	short []int
	e     api.Errno // of Cheapest
}{
	{"the example", troupe(), rack(), []int{0, 1, 2}, 160, nil, api.OK},
	{"without the first item", troupe(), rack()[1:], nil, 0, []int{0, 1}, api.ErrMissing},
	{"without the last item", troupe(), rack()[:2], nil, 0, []int{2}, api.ErrMissing},
	{"without items", troupe(), nil, nil, 0, []int{0}, api.ErrMissing},
	{"without parts", changed(func(p *api.Plot) { p.Parts = nil }), rack(), nil, 0, nil, api.OK},
	{"without parts and items", changed(func(p *api.Plot) { p.Parts = nil }), nil, nil, 0, nil, api.OK},
	{"the cheaper one comes later", troupe(), append(rack(), api.Item{Fits: one(44), Cost: 79}), []int{0, 3, 2}, 159, nil, api.OK},
	{"as cheap and later", troupe(), append(rack(), api.Item{Fits: one(44), Cost: 80}), []int{0, 1, 2}, 160, nil, api.OK},
	{"each item is paid once", changed(func(p *api.Plot) { p.Parts[1].From, p.Parts[1].To = 130, 140 }), rack(), []int{1, 1, 2}, 110, nil, api.OK},
	{"an item that may fit", changed(func(p *api.Plot) { p.Persons[1] = span(44, 47) }), rack(), nil, 0, []int{1}, api.ErrMissing},
	{"no costs", crew(2), []api.Item{coat(0, 0), coat(0, 0)}, []int{0, 0}, 0, nil, api.OK},
	{"no costs, later", crew(2), []api.Item{coat(1, 0), coat(0, 0), coat(0, 0)}, []int{1, 1}, 0, nil, api.OK},
	{"no costs, but time", crew(2), []api.Item{coat(0, 1), coat(0, 1), coat(0, 0)}, []int{0, 1}, 0, nil, api.OK},
	{"dear, but for all", crew(3), []api.Item{coat(2, 60), coat(2, 60), coat(2, 60), coat(5, 0)}, []int{3, 3, 3}, 5, nil, api.OK},
	{"as dear as one for all", crew(3), []api.Item{coat(2, 60), coat(2, 60), coat(2, 60), coat(6, 0)}, []int{0, 1, 2}, 6, nil, api.OK},
	{"one item is clean again", crew(3), []api.Item{coat(0, 60), coat(5, 10)}, []int{1, 0, 1}, 5, nil, api.OK},
	{"each two of three", crew(3), []api.Item{coat(0, 60), coat(5, 60)}, nil, 0, []int{0, 1, 2}, api.ErrMissing},
	{"the first two", crew(4), []api.Item{coat(0, 9), {Fits: one(8)}}, nil, 0, []int{0, 1}, api.ErrMissing},
	{"the first two of several", changed(func(p *api.Plot) {
		*p = crew(4)
		p.Parts[1].From, p.Parts[1].To = 100, 110
	}), []api.Item{coat(0, 5)}, nil, 0, []int{2, 3}, api.ErrMissing},
	{"the fewest come later", changed(func(p *api.Plot) {
		*p = crew(4)
		p.Persons[3] = one(8)
	}), []api.Item{coat(0, 9)}, nil, 0, []int{3}, api.ErrMissing},
	{"the fewest are not neighbours", changed(func(p *api.Plot) {
		*p = crew(4)
		p.Parts[1], p.Parts[3] = part(1, 0, 0, 200, 210), part(3, 0, 0, 205, 206)
	}), []api.Item{coat(0, 0)}, nil, 0, []int{1, 3}, api.ErrMissing},
	{"as much as may be tried", crew(6), slices.Repeat([]api.Item{coat(1, 0)}, 10), []int{0, 0, 0, 0, 0, 0}, 1, nil, api.OK},
	{"all items but one are left", crew(6), append(slices.Repeat([]api.Item{coat(1, 5)}, 9), coat(0, 0)), []int{9, 9, 9, 9, 9, 9}, 0, nil, api.OK},
	{"six at once, and five items", sextet(), slices.Repeat([]api.Item{coat(1, 0)}, 5), nil, 0, []int{0, 1, 2, 3, 4, 5}, api.ErrMissing},
	{"six at once, and six items", sextet(), slices.Repeat([]api.Item{coat(1, 0)}, 6), []int{0, 1, 2, 3, 4, 5}, 6, nil, api.OK},
}

// sextet is six persons with a part at once.
func sextet() api.Plot {
	p := crew(6)
	for i := range p.Parts {
		p.Parts[i] = part(i, 0, 0, 7, 8)
	}
	return p
}

// P3.3: Cheapest and Short.
func TestCheapest(t *testing.T) {
	for _, c := range choices {
		if e := costume.CheckItems(c.p, c.items); e != api.OK {
			t.Fatal(c.about, e)
		}
		wear, cost, e := costume.Cheapest(c.p, c.items)
		if !slices.Equal(wear, c.wear) || cost != c.cost || e != c.e {
			t.Error(c.about, wear, cost, e)
		}
		parts, e := costume.Short(c.p, c.items)
		if !slices.Equal(parts, c.short) || e != api.OK {
			t.Error(c.about, parts, e)
		}
	}
}

// P3.3: Cheapest and Short take no more than 6 parts and 10 items.
func TestTooMany(t *testing.T) {
	for _, c := range []struct {
		parts, items int
		want         api.Errno
	}{{6, 10, api.OK}, {7, 10, api.ErrFull}, {6, 11, api.ErrFull}, {7, 11, api.ErrFull}, {12, 0, api.ErrFull}, {0, 11, api.ErrFull}, {12, 30, api.ErrFull}} {
		items := slices.Repeat([]api.Item{coat(1, 0)}, c.items)
		p := crew(c.parts)
		p.Persons = append(p.Persons, one(9))[:max(1, c.parts)]
		wear, cost, e := costume.Cheapest(p, items)
		parts, e2 := costume.Short(p, items)
		if e != c.want || e2 != c.want || e != api.OK && (len(wear)+len(parts) > 0 || cost != 0) {
			t.Error(c.parts, c.items, wear, cost, e, parts, e2)
		}
	}
}
