package costume

import (
	"bateria/api"
	"bateria/rows"
)

const maxDigits = 6

// Write returns the sheet of a plot.
func Write(p api.Plot) (string, api.Errno) {
	if e := Check(p); e != api.OK {
		return "", e
	}
	var sizes []int
	for _, size := range p.Persons {
		sizes = append(sizes, size.Lo, size.Hi)
	}
	text := rows.Row("persons", sizes...)
	for _, ways := range p.Walk {
		text += rows.Row("walk", ways...)
	}
	text += rows.Row("dress", p.Dress...)
	for _, x := range p.Parts {
		text += rows.Row("part", x.Person, x.Place, x.Kind, x.From, x.To)
	}
	return text + rows.Row("end", len(p.Parts)), api.OK
}

// Read returns the plot of a sheet; or an error, and its row or 0.
func Read(text string) (p api.Plot, row int, e api.Errno) {
	if len(text) > api.MaxSheet {
		return api.Plot{}, 0, api.ErrLong
	}
	r := reader{}
	if wrong := rows.Wrong(text, r.take); wrong > 0 {
		return api.Plot{}, wrong, api.ErrForm
	}
	if e := Check(r.plot); e != api.OK {
		return api.Plot{}, 0, e
	}
	return r.plot, 0, api.OK
}

// reader is what was read of a sheet so far, and whether the row "dress" was.
type reader struct {
	plot    api.Plot
	dressed bool
}

// take reads the words of a row, and says whether they are as they have to be.
func (r *reader) take(row int, words []string) bool {
	first, others := words[0], words[1:]
	switch {
	case row == 1:
		return first == "persons" && r.takePersons(others)
	case !r.dressed && first == "walk":
		return r.takeWalk(others)
	case !r.dressed:
		return first == "dress" && r.takeDress(others)
	case first == "part":
		return r.takePart(others)
	case first == "end":
		parts := 0
		return rows.Numbers(others, maxDigits, &parts) && parts == len(r.plot.Parts)
	}
	return false
}

func (r *reader) takePersons(words []string) bool {
	sizes, ok := rows.List(words, maxDigits)
	if !ok || len(sizes)%2 != 0 {
		return false
	}
	for i := 0; i < len(sizes); i += 2 {
		r.plot.Persons = append(r.plot.Persons, api.Span{Lo: sizes[i], Hi: sizes[i+1]})
	}
	return true
}

func (r *reader) takeWalk(words []string) bool {
	ways, ok := rows.List(words, maxDigits)
	r.plot.Walk = append(r.plot.Walk, ways)
	return ok
}

func (r *reader) takeDress(words []string) bool {
	r.plot.Dress, r.dressed = rows.List(words, maxDigits)
	return r.dressed
}

func (r *reader) takePart(words []string) bool {
	x := api.Part{}
	if !rows.Numbers(words, maxDigits, &x.Person, &x.Place, &x.Kind, &x.From, &x.To) {
		return false
	}
	r.plot.Parts = append(r.plot.Parts, x)
	return true
}
