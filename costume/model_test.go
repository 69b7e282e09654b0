package costume_test

// The model follows the section Terms of the chapter word by word: it goes through all minutes, all true sizes and all lists of items. The other tests hold the package against it.

import (
	"iter"
	"math/rand/v2"
	"slices"

	"bateria/api"
)

const sure, never, open = api.Sure, api.Never, api.Open

func span(low, high int) api.Span { return api.Span{Lo: low, Hi: high} }

func one(n int) api.Span { return span(n, n) }

func part(person, place, kind, from, to int) api.Part {
	return api.Part{Person: person, Place: place, Kind: kind, From: from, To: to}
}

// troupe is the plot P of the chapter's examples.
func troupe() api.Plot {
	return api.Plot{
		Persons: []api.Span{span(40, 42), one(44)},
		Walk:    [][]int{{0, 5}, {5, 0}},
		Dress:   []int{10, 20},
		Parts:   []api.Part{part(0, 0, 0, 100, 120), part(1, 0, 0, 110, 130), part(0, 1, 1, 145, 160)},
	}
}

// rack is the items I of the chapter's examples.
func rack() []api.Item {
	return []api.Item{
		{Kind: 0, Fits: span(38, 42), Cost: 50, Clean: 0},
		{Kind: 0, Fits: span(40, 46), Cost: 80, Clean: 10},
		{Kind: 1, Fits: span(30, 50), Cost: 30, Clean: 0},
	}
}

// changed is the troupe after a change.
func changed(change func(p *api.Plot)) api.Plot {
	p := troupe()
	change(&p)
	return p
}

// changedRack is the rack after a change.
func changedRack(change func(items []api.Item)) []api.Item {
	items := rack()
	change(items)
	return items
}

// copied is a plot that shares no memory with another one.
func copied(p api.Plot) api.Plot {
	p.Persons, p.Dress, p.Parts = slices.Clone(p.Persons), slices.Clone(p.Dress), slices.Clone(p.Parts)
	p.Walk = slices.Clone(p.Walk)
	for i := range p.Walk {
		p.Walk[i] = slices.Clone(p.Walk[i])
	}
	return p
}

// only is a plot with some of its parts alone.
func only(p api.Plot, parts []int) api.Plot {
	all := p.Parts
	p.Parts = nil
	for _, i := range parts {
		p.Parts = append(p.Parts, all[i])
	}
	return p
}

func on(x api.Part, minute int) bool { return minute >= x.From && minute < x.To }

// together says whether two parts are on in one minute.
func together(a, b api.Part) bool {
	for minute := range api.MaxMinute {
		if on(a, minute) && on(b, minute) {
			return true
		}
	}
	return false
}

// between counts the minutes from the end of the earlier part to the beginning of the later one; the parts are not on together.
func between(a, b api.Part) (minutes int, earlier, later api.Part) {
	earlier, later = a, b
	if a.From > b.From {
		earlier, later = b, a
	}
	for minute := range api.MaxMinute {
		if minute >= earlier.To && minute < later.From {
			minutes++
		}
	}
	return minutes, earlier, later
}

// pairError is the error of two parts of a plot.
func pairError(p api.Plot, a, b api.Part) api.Errno {
	if a.Person != b.Person {
		return api.OK
	}
	if together(a, b) {
		return api.ErrClash
	}
	minutes, earlier, later := between(a, b)
	needed := p.Walk[earlier.Place][later.Place]
	if earlier.Kind != later.Kind {
		needed += p.Dress[later.Kind]
	}
	if minutes < needed {
		return api.ErrLate
	}
	return api.OK
}

// partsError is the first error of the parts of a plot, the numbers of which are right.
func partsError(p api.Plot) api.Errno {
	for i, x := range p.Parts {
		for _, before := range p.Parts[:i] {
			if e := pairError(p, before, x); e != api.OK {
				return e
			}
		}
	}
	return api.OK
}

// fits looks at all sizes that a person may have.
func fits(i api.Item, size api.Span) int {
	some, all := false, true
	for truly := size.Lo; truly <= size.Hi; truly++ {
		if truly >= i.Fits.Lo && truly <= i.Fits.Hi {
			some = true
		} else {
			all = false
		}
	}
	switch {
	case all:
		return sure
	case some:
		return open
	}
	return never
}

// itemError is the error of an item in a part.
func itemError(p api.Plot, items []api.Item, x api.Part, item int) api.Errno {
	if item < 0 || item >= len(items) {
		return api.ErrMissing
	}
	if items[item].Kind != x.Kind {
		return api.ErrKind
	}
	return map[int]api.Errno{sure: api.OK, never: api.ErrClash, open: api.ErrOpen}[fits(items[item], p.Persons[x.Person])]
}

// changeError is the error of the items in two parts of a valid plot.
func changeError(p api.Plot, items []api.Item, a, b api.Part, itemA, itemB int) api.Errno {
	if a.Person == b.Person && a.Kind == b.Kind && itemA != itemB {
		minutes, earlier, later := between(a, b)
		if minutes < p.Walk[earlier.Place][later.Place]+p.Dress[b.Kind] {
			return api.ErrLate
		}
	}
	// somebody has an item as long as it is worn and cleaned; two persons never have it at once
	if a.Person != b.Person && itemA == itemB {
		a.To += items[itemA].Clean
		b.To += items[itemA].Clean
		if together(a, b) {
			return api.ErrState
		}
	}
	return api.OK
}

// wearError is the first error of a wear.
func wearError(p api.Plot, items []api.Item, wear []int) api.Errno {
	if len(wear) != len(p.Parts) {
		return api.ErrForm
	}
	for i, x := range p.Parts {
		if e := itemError(p, items, x, wear[i]); e != api.OK {
			return e
		}
		for j, before := range p.Parts[:i] {
			if e := changeError(p, items, before, x, wear[j], wear[i]); e != api.OK {
				return e
			}
		}
	}
	return api.OK
}

// lists hands out all lists of numbers below a number, in lexicographic order.
func lists(long, below int) iter.Seq[[]int] {
	return func(yield func([]int) bool) {
		list := make([]int, long)
		for below > 0 || long == 0 {
			if !yield(slices.Clone(list)) {
				return
			}
			at := long - 1
			for at >= 0 && list[at] == below-1 {
				list[at] = 0
				at--
			}
			if at < 0 {
				return
			}
			list[at]++
		}
	}
}

// costs is the cost of a wear.
func costs(items []api.Item, wear []int) int {
	sum := 0
	for i, item := range items {
		if slices.Contains(wear, i) {
			sum += item.Cost
		}
	}
	return sum
}

// cheapest looks at all lists of items.
func cheapest(p api.Plot, items []api.Item) (best []int, cost int, e api.Errno) {
	e = api.ErrMissing
	for wear := range lists(len(p.Parts), len(items)) {
		if wearError(p, items, wear) != api.OK {
			continue
		}
		if n := costs(items, wear); e != api.OK || n < cost {
			best, cost, e = wear, n, api.OK
		}
	}
	return best, cost, e
}

// short looks at all lists of parts.
func short(p api.Plot, items []api.Item) []int {
	for long := range len(p.Parts) + 1 {
		for list := range lists(long, len(p.Parts)) {
			if !slices.IsSorted(list) || len(slices.Compact(slices.Clone(list))) < long {
				continue
			}
			if _, _, e := cheapest(only(p, list), items); e != api.OK {
				return list
			}
		}
	}
	return nil
}

// trial is a small plot with items.
type trial struct {
	p     api.Plot
	items []api.Item
}

// trials are valid small plots of up to so many parts, with up to so many items, the same ones each time.
func trials(many, parts, items int) []trial {
	pick := rand.New(rand.NewPCG(5, 6))
	var all []trial
	for range many {
		x := trial{p: smallPlot(pick)}
		wanted := pick.IntN(parts + 1)
		for tries := 0; len(x.p.Parts) < wanted && tries < 10*wanted; tries++ {
			next := x.p
			next.Parts = append(slices.Clone(x.p.Parts), smallPart(pick, x.p))
			if partsError(next) == api.OK {
				x.p = next
			}
		}
		for range pick.IntN(items + 1) {
			least := 1 + pick.IntN(4)
			x.items = append(x.items, api.Item{Kind: pick.IntN(len(x.p.Dress)), Fits: span(least, least+2+pick.IntN(7)), Cost: pick.IntN(6), Clean: pick.IntN(12)})
		}
		all = append(all, x)
	}
	return all
}

func smallPlot(pick *rand.Rand) api.Plot {
	var p api.Plot
	for range 1 + pick.IntN(3) {
		least := 3 + pick.IntN(3)
		p.Persons = append(p.Persons, span(least, least+pick.IntN(2)))
	}
	p.Walk = make([][]int, 1+pick.IntN(3))
	for i := range p.Walk {
		p.Walk[i] = make([]int, len(p.Walk))
		for j := range p.Walk {
			if i != j {
				p.Walk[i][j] = pick.IntN(8)
			}
		}
	}
	for range 1 + pick.IntN(2) {
		p.Dress = append(p.Dress, pick.IntN(8))
	}
	return p
}

func smallPart(pick *rand.Rand, p api.Plot) api.Part {
	from := pick.IntN(60)
	return part(pick.IntN(len(p.Persons)), pick.IntN(len(p.Walk)), pick.IntN(len(p.Dress)), from, from+1+pick.IntN(12))
}
