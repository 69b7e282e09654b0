package night

import (
	"slices"

	"bateria/api"
	"bateria/band"
	"bateria/coin"
	"bateria/marks"
	"bateria/parade"
	"bateria/rows"
)

func (d *desk) place(n []int) (string, api.Errno) {
	s, e := d.ofWing(n[0], parade.Where)
	return list(s.Lo, s.Hi), e
}

func (d *desk) gap(n []int) (string, api.Errno) {
	s, e := d.ofWing(n[0], parade.Gap)
	return list(s.Lo, s.Hi), e
}

// ofWing is what is asked of a wing that started, in this second.
func (d *desk) ofWing(wing int, ask func(s api.School, starts []int, wing, second int) (api.Span, api.Errno)) (api.Span, api.Errno) {
	if !isNumber(wing, len(d.Starts)) {
		return api.Span{}, api.ErrMissing
	}
	school, starts := d.inParade(d.Starts)
	return ask(school, starts, wing, d.Second-d.Starts[0])
}

func (d *desk) lasts([]int) (string, api.Errno) {
	if len(d.Starts) < len(d.School.Wings) {
		return "", api.ErrState
	}
	school, starts := d.inParade(d.Starts)
	verdict, seconds, e := parade.Lasts(school, starts, d.Rules)
	return rows.Row(verdictWord(verdict), seconds.Lo, seconds.Hi), e
}

func verdictWord(verdict int) string {
	switch verdict {
	case api.Sure:
		return "sure"
	case api.Never:
		return "never"
	}
	return "open"
}

func (d *desk) places([]int) (string, api.Errno) {
	var places []int
	for school := range d.Scale.Schools {
		place, e := marks.Place(d.Scale, d.Night, school)
		if e != api.OK {
			return "", e
		}
		places = append(places, place.Lo, place.Hi)
	}
	return list(places...), api.OK
}

func (d *desk) winner([]int) (string, api.Errno) {
	var may []int
	for school := range d.Scale.Schools {
		verdict, e := marks.Wins(d.Scale, d.Night, school)
		switch {
		case e != api.OK:
			return "", e
		case verdict == api.Sure:
			return rows.Row("sure", school), api.OK
		case verdict == api.Open:
			may = append(may, school)
		}
	}
	return rows.Row("open", may...), api.OK
}

func (d *desk) table([]int) (string, api.Errno) {
	standings, e := marks.Table(d.Scale, d.Night)
	var schools []int
	for _, x := range standings {
		schools = append(schools, x.School)
	}
	return list(schools...), e
}

func (d *desk) heard(n []int) (string, api.Errno) {
	square := n[0]
	if !isNumber(square, len(d.City.Town.Rooms)) {
		return "", api.ErrMissing
	}
	var heard []int
	for number, b := range d.Bands {
		squares, _, e := band.Where(d.City, b, d.minute())
		if e != api.OK {
			return "", e
		}
		if slices.Contains(squares, square) {
			heard = append(heard, number)
		}
	}
	return list(heard...), api.OK
}

func (d *desk) sleep(n []int) (string, api.Errno) {
	from, many, e := band.Sleep(d.City, d.Bands, n[0])
	return list(from, many), e
}

func (d *desk) left(n []int) (string, api.Errno) {
	fund := n[0]
	spent, e := coin.Spent(d.ledger(), fund)
	if e != api.OK {
		return "", e
	}
	amount := d.Funds[fund].Amount
	return list(amount-spent.Hi, amount-spent.Lo), api.OK
}

func (d *desk) trace(n []int) (string, api.Errno) {
	bill := n[0]
	if !isNumber(bill, len(d.Bills)) {
		return "", api.ErrMissing
	}
	trace, e := coin.Trace(d.ledger())
	if e != api.OK {
		return "", e
	}
	return list(trace[bill]...), api.OK
}
