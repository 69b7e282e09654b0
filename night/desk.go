package night

import (
	"slices"

	"bateria/api"
	"bateria/band"
	"bateria/coin"
	"bateria/marks"
	"bateria/parade"
	"bateria/rows"
)

const minuteSeconds = 60

// desk is the desk at work: what was written down, and what is known ahead.
type desk struct {
	api.Desk
	api.Director
}

func (d *desk) minute() int { return d.Second / minuteSeconds }

func (d *desk) ledger() api.Ledger { return api.Ledger{Funds: d.Funds, Bills: d.Bills} }

// inParade is the school of the first wings alone, which start in these seconds of the night, and their starts in seconds of the parade.
func (d *desk) inParade(starts []int) (api.School, []int) {
	school := d.School
	school.Wings = school.Wings[:len(starts)]
	var seconds []int
	for _, start := range starts {
		seconds = append(seconds, start-starts[0])
	}
	return school, seconds
}

// with is a list with one thing more. It is a new one, so that a line that is refused has changed nothing.
func with[T any](list []T, thing T) []T { return slices.Concat(list, []T{thing}) }

// written makes a change and says so, unless there is an error.
func written(e api.Errno, change func()) (string, api.Errno) {
	if e == api.OK {
		change()
	}
	return rows.Row("ok"), e
}

func (d *desk) at(n []int) (string, api.Errno) {
	second := n[0]
	e := unless(within(second, d.Second, api.MaxClock), api.ErrRange)
	return written(e, func() { d.Second = second })
}

func (d *desk) wing([]int) (string, api.Errno) {
	starts := with(d.Starts, d.Second)
	e := firstOf(
		func() api.Errno { return unless(len(starts) <= len(d.School.Wings), api.ErrState) },
		func() api.Errno { return parade.CheckStarts(d.inParade(starts)) },
	)
	return written(e, func() { d.Starts = starts })
}

func (d *desk) open(n []int) (string, api.Errno) {
	night := d.Night
	night.Opened = with(night.Opened, api.Envelope{Matter: n[0], Judge: n[1], Seal: n[2], Marks: n[3:]})
	return d.learn(night)
}

func (d *desk) absent(n []int) (string, api.Errno) {
	night := d.Night
	night.Absent = with(night.Absent, api.Absence{Matter: n[0], Judge: n[1]})
	return d.learn(night)
}

func (d *desk) fine(n []int) (string, api.Errno) {
	night := d.Night
	night.Fines = with(night.Fines, api.Fine{School: n[0], Points: n[1]})
	return d.learn(night)
}

// learn writes down what is known of the marks by now.
func (d *desk) learn(night api.Night) (string, api.Errno) {
	e := marks.CheckNight(d.Scale, night)
	return written(e, func() { d.Night = night })
}

func (d *desk) band(n []int) (string, api.Errno) {
	b := api.Band{First: n[0], Start: api.Span{Lo: n[1], Hi: n[2]}, Stay: n[3], People: n[4], Path: n[5:]}
	bands := with(d.Bands, b)
	e := firstOf(
		func() api.Errno { return band.CheckBands(d.City, bands) },
		func() api.Errno { return unless(b.Start.Lo >= d.minute(), api.ErrLate) },
		func() api.Errno { return lastAnswer(d.City, bands) },
	)
	return written(e, func() { d.Bands = bands })
}

// lastAnswer is that to the last one of bands, of which all others are granted.
func lastAnswer(c api.City, bands []api.Band) api.Errno {
	answers, e := band.Grant(c, bands)
	if e != api.OK {
		return e
	}
	return answers[len(answers)-1]
}

func (d *desk) bill(n []int) (string, api.Errno) {
	ledger := d.ledger()
	ledger.Bills = with(ledger.Bills, api.Bill{Day: d.Date, Use: n[0], Amount: n[1]})
	_, e := coin.Trace(ledger) // returns the error of coin.Check first
	return written(e, func() { d.Bills = ledger.Bills })
}
