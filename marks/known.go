package marks

import (
	"cmp"
	"iter"
	"maps"
	"slices"

	"bateria/api"
)

// seat is a judge of a matter.
type seat struct{ matter, judge int }

// card is a mark for each school. It is an array, so that another one that may be is a copy with a change.
type card [api.MaxSchools]int

// known is what is known of a night, each thing once: the marks in the envelopes that were opened, who is absent, and how many points are taken off each school.
type known struct {
	scale  api.Scale
	opened map[seat]card
	absent map[seat]bool
	fines  [api.MaxSchools]int
}

// same is a card with one mark for all schools.
func same(mark int) card {
	c := card{}
	for school := range c {
		c[school] = mark
	}
	return c
}

// with is the card with another mark for a school.
func (c card) with(school, mark int) card {
	c[school] = mark
	return c
}

// sealed hands out the judges whose envelopes are still sealed, by matter, then by judge.
func (k known) sealed() iter.Seq[seat] {
	return func(yield func(seat) bool) {
		for matter := range k.scale.Matters {
			for judge := range k.scale.Judges {
				who := seat{matter, judge}
				if _, ok := k.opened[who]; ok || k.absent[who] {
					continue
				}
				if !yield(who) {
					return
				}
			}
		}
	}
}

// decided says whether no envelope is still sealed.
func (k known) decided() bool {
	for range k.sealed() {
		return false
	}
	return true
}

// guess is what would be known if these marks were in all envelopes that are still sealed.
func (k known) guess(marks card) known {
	opened := maps.Clone(k.opened)
	for who := range k.sealed() {
		opened[who] = marks
	}
	k.opened = opened
	return k
}

// points is what a school has of a matter in a night that is decided.
func (k known) points(school, matter int) int {
	var marks []int
	for judge := range k.scale.Judges {
		if c, ok := k.opened[seat{matter, judge}]; ok {
			marks = append(marks, c[school])
		}
	}
	mean := sum(marks) / len(marks)
	for len(marks) < k.scale.Judges {
		marks = append(marks, mean)
	}
	slices.Sort(marks)
	return sum(marks[k.scale.Drop:])
}

func sum(marks []int) int {
	total := 0
	for _, mark := range marks {
		total += mark
	}
	return total
}

// standing is what a school has in a night that is decided.
func (k known) standing(school int) api.Standing {
	x := api.Standing{School: school, Total: -k.fines[school]}
	for matter := range k.scale.Matters {
		points := k.points(school, matter)
		x.Points = append(x.Points, points)
		x.Total += points
	}
	return x
}

// standings are what all schools have in a night that is decided, in the order of their places.
func (k known) standings() []api.Standing {
	var all []api.Standing
	for school := range k.scale.Schools {
		all = append(all, k.standing(school))
	}
	slices.SortFunc(all, tieRules(k.scale.Order).compare)
	return all
}

// place is the place of a school in a night that is decided.
func (k known) place(school int) int {
	return 1 + slices.IndexFunc(k.standings(), func(x api.Standing) bool { return x.School == school })
}

// rules say who stands ahead: each returns less than 0 if the first of two schools does, and 0 if it leaves that to the next rule.
type rules []func(a, b api.Standing) int

// tieRules are the rules for an order of matters.
func tieRules(order []int) rules {
	all := rules{func(a, b api.Standing) int { return cmp.Compare(b.Total, a.Total) }}
	for _, matter := range order {
		all = append(all, func(a, b api.Standing) int { return cmp.Compare(b.Points[matter], a.Points[matter]) })
	}
	return append(all, func(a, b api.Standing) int { return cmp.Compare(a.School, b.School) })
}

// compare asks one rule after the other until one decides.
func (r rules) compare(a, b api.Standing) int {
	for _, rule := range r {
		if n := rule(a, b); n != 0 {
			return n
		}
	}
	return 0
}
