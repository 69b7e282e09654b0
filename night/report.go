package night

import (
	"bateria/band"
	"bateria/coin"
	"bateria/marks"
	"bateria/parade"
	"bateria/rows"
)

// report is what the desk says. No errors are looked for: whatever would be one was refused.
func (d *desk) report() string {
	return rows.Row("at", d.Second) + d.wingRows() + d.schoolRows() + d.bandRows() + d.billRows() + rows.Row("end")
}

func (d *desk) wingRows() string {
	text := ""
	for wing, start := range d.Starts {
		place, _ := d.ofWing(wing, parade.Where)
		text += rows.Row("wing "+d.School.Wings[wing].Name, start, place.Lo, place.Hi)
	}
	return text
}

func (d *desk) schoolRows() string {
	totals, _ := marks.Totals(d.Scale, d.Night)
	text := ""
	for school, total := range totals {
		text += rows.Row("school", school, total.Lo, total.Hi)
	}
	return text
}

func (d *desk) bandRows() string {
	text := ""
	for number, b := range d.Bands {
		squares, _ := band.Squares(d.City, b)
		text += rows.Row("band", append([]int{number}, squares...)...)
	}
	return text
}

func (d *desk) billRows() string {
	trace, _ := coin.Trace(d.ledger())
	text := ""
	for bill, coins := range trace {
		b := d.Bills[bill]
		text += rows.Row("bill", append([]int{b.Use, b.Amount}, coins...)...)
	}
	return text
}
