package marks

import (
	"bateria/api"
	"bateria/rows"
)

const maxDigits = 6

// Write returns the minutes of a night.
func Write(s api.Scale, n api.Night) (string, api.Errno) {
	if e := CheckNight(s, n); e != api.OK {
		return "", e
	}
	text := rows.Row("scale", s.Schools, s.Matters, s.Judges, s.Drop, s.Low, s.High)
	text += rows.Row("order", s.Order...)
	for _, x := range n.Opened {
		text += rows.Row("marks", append([]int{x.Matter, x.Judge, x.Seal}, x.Marks...)...)
	}
	for _, x := range n.Absent {
		text += rows.Row("absent", x.Matter, x.Judge)
	}
	for _, x := range n.Fines {
		text += rows.Row("fine", x.School, x.Points)
	}
	text += rows.Row("end", len(n.Opened))
	if len(text) > api.MaxMinutes {
		return "", api.ErrLong
	}
	return text, api.OK
}

// Read returns the scale and the night of minutes; or an error, and its row or 0.
func Read(text string) (s api.Scale, n api.Night, row int, e api.Errno) {
	if len(text) > api.MaxMinutes {
		return api.Scale{}, api.Night{}, 0, api.ErrLong
	}
	r := reader{}
	if wrong := r.read(text); wrong > 0 {
		return api.Scale{}, api.Night{}, wrong, api.ErrForm
	}
	if e := CheckNight(r.scale, r.night); e != api.OK {
		return api.Scale{}, api.Night{}, 0, e
	}
	return r.scale, r.night, 0, api.OK
}

// reader is what was read of minutes so far.
type reader struct {
	scale api.Scale
	night api.Night
}

// read reads all rows, and returns the number of the first one that is not as it has to be, or 0.
func (r *reader) read(text string) int {
	row := 0
reading:
	for {
		row++
		words, rest, ok := rows.Next(text)
		if !ok {
			return row
		}
		text = rest
		first, others := words[0], words[1:]
		switch {
		case row == 1 && first == "scale" && r.takeScale(others):
		case row == 2 && first == "order" && r.takeOrder(others):
		case row > 2 && first == "marks" && r.takeMarks(others):
		case row > 2 && first == "absent" && r.takeAbsent(others):
		case row > 2 && first == "fine" && r.takeFine(others):
		case row > 2 && first == "end" && r.isEnd(others):
			break reading
		default:
			return row
		}
	}
	if text != "" {
		return row + 1
	}
	return 0
}

func (r *reader) takeScale(words []string) bool {
	s := &r.scale
	return rows.Numbers(words, maxDigits, &s.Schools, &s.Matters, &s.Judges, &s.Drop, &s.Low, &s.High)
}

func (r *reader) takeOrder(words []string) bool {
	order, ok := rows.List(words, maxDigits)
	r.scale.Order = order
	return ok
}

func (r *reader) takeMarks(words []string) bool {
	numbers, ok := rows.List(words, maxDigits)
	if !ok || len(numbers) < 3 || len(r.night.Absent)+len(r.night.Fines) > 0 {
		return false
	}
	r.night.Opened = append(r.night.Opened, api.Envelope{Matter: numbers[0], Judge: numbers[1], Seal: numbers[2], Marks: numbers[3:]})
	return true
}

func (r *reader) takeAbsent(words []string) bool {
	x := api.Absence{}
	if !rows.Numbers(words, maxDigits, &x.Matter, &x.Judge) || len(r.night.Fines) > 0 {
		return false
	}
	r.night.Absent = append(r.night.Absent, x)
	return true
}

func (r *reader) takeFine(words []string) bool {
	x := api.Fine{}
	if !rows.Numbers(words, maxDigits, &x.School, &x.Points) {
		return false
	}
	r.night.Fines = append(r.night.Fines, x)
	return true
}

// isEnd says whether the row "end" has the number of the envelopes.
func (r *reader) isEnd(words []string) bool {
	envelopes := 0
	return rows.Numbers(words, maxDigits, &envelopes) && envelopes == len(r.night.Opened)
}
