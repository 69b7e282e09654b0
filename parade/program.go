package parade

import (
	"strings"

	"bateria/api"
	"bateria/rows"
)

const maxDigits = 6

// Write returns the program of a school.
func Write(s api.School) (string, api.Errno) {
	if e := Check(s); e != api.OK {
		return "", e
	}
	text := rows.Row("avenue", s.Route)
	for _, w := range s.Wings {
		text += rows.Row("wing "+w.Name, w.Length, w.Pace.Lo, w.Pace.Hi)
	}
	return text + rows.Row("end", len(s.Wings)), api.OK
}

// Read returns the school of a program; or an error, and its row or 0.
func Read(text string) (s api.School, row int, e api.Errno) {
	if len(text) > api.MaxProgram {
		return api.School{}, 0, api.ErrLong
	}
	r := reader{}
	if wrong := rows.Wrong(text, r.take); wrong > 0 {
		return api.School{}, wrong, api.ErrForm
	}
	if r.wings != len(r.school.Wings) {
		return api.School{}, r.end, api.ErrForm
	}
	if e := Check(r.school); e != api.OK {
		return api.School{}, 0, e
	}
	return r.school, 0, api.OK
}

// reader is what was read of a program so far: the school, the number of the row "end" and the number of wings in it.
type reader struct {
	school     api.School
	end, wings int
}

// take reads the words of a row, and says whether they are as they have to be.
func (r *reader) take(row int, words []string) bool {
	switch {
	case row == 1:
		return words[0] == "avenue" && rows.Numbers(words[1:], maxDigits, &r.school.Route)
	case words[0] == "wing":
		return r.takeWing(words[1:])
	case words[0] == "end":
		r.end = row
		return rows.Numbers(words[1:], maxDigits, &r.wings)
	}
	return false
}

func (r *reader) takeWing(words []string) bool {
	if len(words) == 0 || words[0] == "" {
		return false
	}
	w := api.Wing{Name: strings.Clone(words[0])}
	if !rows.Numbers(words[1:], maxDigits, &w.Length, &w.Pace.Lo, &w.Pace.Hi) {
		return false
	}
	r.school.Wings = append(r.school.Wings, w)
	return true
}
