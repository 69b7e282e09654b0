package crowd

import (
	"bateria/api"
	"bateria/rows"
)

const maxDigits = 7

// Write returns the charter of a town.
func Write(t api.Town) (string, api.Errno) {
	if e := Check(t); e != api.OK {
		return "", e
	}
	text := rows.Row("town", t.Steps)
	for _, room := range t.Rooms {
		text += rows.Row("square", room)
	}
	for _, x := range t.Streets {
		text += rows.Row("street", x.A, x.B)
	}
	for _, g := range t.Groups {
		text += rows.Row("group", append([]int{g.Size.Lo, g.Size.Hi, g.At.Lo, g.At.Hi, g.Stay, g.First}, g.Path...)...)
	}
	return text + rows.Row("end", len(t.Groups)), api.OK
}

// Read returns the town of a charter; or an error, and its row or 0.
func Read(text string) (t api.Town, row int, e api.Errno) {
	if len(text) > api.MaxCharter {
		return api.Town{}, 0, api.ErrLong
	}
	r := reader{}
	if wrong := rows.Wrong(text, r.take); wrong > 0 {
		return api.Town{}, wrong, api.ErrForm
	}
	if e := Check(r.town); e != api.OK {
		return api.Town{}, 0, e
	}
	return r.town, 0, api.OK
}

// reader is what was read of a charter so far.
type reader struct{ town api.Town }

// take reads the words of a row, and says whether they are as they have to be.
func (r *reader) take(row int, words []string) bool {
	first, others := words[0], words[1:]
	if row == 1 {
		return first == "town" && rows.Numbers(others, maxDigits, &r.town.Steps)
	}
	switch first {
	case "square":
		return r.takeSquare(others)
	case "street":
		return r.takeStreet(others)
	case "group":
		return r.takeGroup(others)
	case "end":
		groups := 0
		return rows.Numbers(others, maxDigits, &groups) && groups == len(r.town.Groups)
	}
	return false
}

func (r *reader) takeSquare(words []string) bool {
	room := 0
	if !rows.Numbers(words, maxDigits, &room) || len(r.town.Streets)+len(r.town.Groups) > 0 {
		return false
	}
	r.town.Rooms = append(r.town.Rooms, room)
	return true
}

func (r *reader) takeStreet(words []string) bool {
	x := api.Street{}
	if !rows.Numbers(words, maxDigits, &x.A, &x.B) || len(r.town.Groups) > 0 {
		return false
	}
	r.town.Streets = append(r.town.Streets, x)
	return true
}

func (r *reader) takeGroup(words []string) bool {
	numbers, ok := rows.List(words, maxDigits)
	if !ok || len(numbers) < 6 {
		return false
	}
	r.town.Groups = append(r.town.Groups, api.Group{
		Size:  api.Span{Lo: numbers[0], Hi: numbers[1]},
		At:    api.Span{Lo: numbers[2], Hi: numbers[3]},
		Stay:  numbers[4],
		First: numbers[5],
		Path:  numbers[6:],
	})
	return true
}
