package costume

import (
	"cmp"
	"slices"

	"bateria/api"
)

// wearing is a person in an item.
type wearing struct{ person, item int }

// wearers says in how many parts each person wears each item.
type wearers map[wearing]int

// Cost returns the cost of a wear.
func Cost(p api.Plot, items []api.Item, wear []int) (int, api.Errno) {
	if e := CheckWear(p, items, wear); e != api.OK {
		return 0, e
	}
	cost, worn := 0, wearers{}
	for part, item := range wear {
		cost += worn.price(items, item)
		worn.put(p.Parts[part].Person, item)
	}
	return cost, api.OK
}

// Cheapest returns the first valid wear in lexicographic order with the least cost, and this cost.
func Cheapest(p api.Plot, items []api.Item) (wear []int, cost int, e api.Errno) {
	if e := checkSmall(p, items); e != api.OK {
		return nil, 0, e
	}
	wear, cost, found := cheapest(p, items)
	if !found {
		return nil, 0, api.ErrMissing
	}
	return wear, cost, api.OK
}

// Short returns the fewest parts that have no valid wear even alone, or nothing if all parts have one.
func Short(p api.Plot, items []api.Item) ([]int, api.Errno) {
	if e := checkSmall(p, items); e != api.OK {
		return nil, e
	}
	for _, parts := range ordered(subsets(len(p.Parts)), fewerOrBefore) {
		if !canWear(p, items, parts...) {
			return parts, api.OK
		}
	}
	return nil, api.OK
}

// price is what an item costs if it is worn once more: nothing if somebody wears it already.
func (w wearers) price(items []api.Item, item int) int {
	for one := range w {
		if one.item == item {
			return 0
		}
	}
	return items[item].Cost
}

func (w wearers) put(person, item int) { w[wearing{person, item}]++ }

// take takes back what was put.
func (w wearers) take(person, item int) {
	one := wearing{person, item}
	w[one]--
	if w[one] == 0 {
		delete(w, one)
	}
}

// cheapest is the first valid wear in lexicographic order with the least cost, and this cost, if there is one.
// A wear that was begun is left as soon as it costs as much as one that was found: it comes later.
func cheapest(p api.Plot, items []api.Item) (best []int, least int, found bool) {
	worn := wearers{}
	var try func(wear []int, cost int)
	try = func(wear []int, cost int) {
		if len(wear) == len(p.Parts) {
			best, least, found = slices.Clone(wear), cost, true
			return
		}
		person := p.Parts[len(wear)].Person
	choices:
		for item := range items {
			longer, more := append(wear, item), cost+worn.price(items, item)
			switch {
			case found && cost >= least:
				break choices
			case found && more >= least, checkWorn(p, items, longer) != api.OK:
				continue
			}
			worn.put(person, item)
			try(longer, more)
			worn.take(person, item)
		}
	}
	try(nil, 0)
	return best, least, found
}

// canWear says whether there is a valid wear if a plot has these parts alone.
func canWear(p api.Plot, items []api.Item, parts ...int) bool {
	all := p.Parts
	p.Parts = nil
	for _, part := range parts {
		p.Parts = append(p.Parts, all[part])
	}
	_, _, found := cheapest(p, items)
	return found
}

// subsets are all lists of some of so many parts, in ascending order each.
func subsets(many int) [][]int {
	var all [][]int
	for bits := range 1 << many {
		var parts []int
		for part := range many {
			if bits>>part&1 == 1 {
				parts = append(parts, part)
			}
		}
		all = append(all, parts)
	}
	return all
}

// fewerOrBefore compares lists by how long they are, then by what is in them.
func fewerOrBefore(a, b []int) int {
	return cmp.Or(cmp.Compare(len(a), len(b)), slices.Compare(a, b))
}
