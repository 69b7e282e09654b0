package parade

import (
	"strconv"
	"strings"

	"bateria/api"
)

const maxDigits = 6

// Write returns the program of a school.
func Write(s api.School) (string, api.Errno) {
	if e := Check(s); e != api.OK {
		return "", e
	}
	rows := []string{"avenue " + strconv.Itoa(s.Route)}
	for _, w := range s.Wings {
		rows = append(rows, wingRow(w))
	}
	rows = append(rows, "end "+strconv.Itoa(len(s.Wings)))
	return strings.Join(rows, "\n") + "\n", api.OK
}

func wingRow(w api.Wing) string {
	words := []string{"wing", w.Name, strconv.Itoa(w.Length), strconv.Itoa(w.Pace.Lo), strconv.Itoa(w.Pace.Hi)}
	return strings.Join(words, " ")
}

// Read returns the school of a program; or an error, and its row or 0.
func Read(text string) (s api.School, row int, e api.Errno) {
	if len(text) > api.MaxProgram {
		return api.School{}, 0, api.ErrLong
	}
	r := reader{}
	if !r.takeAll(text) {
		return api.School{}, r.row, api.ErrForm
	}
	if r.wings != len(r.school.Wings) {
		return api.School{}, r.end, api.ErrForm
	}
	if e := Check(r.school); e != api.OK {
		return api.School{}, 0, e
	}
	return r.school, 0, api.OK
}

// reader is what was read of a program so far: the number of the last row, that of the row "end" (0 before it) and the number of wings in it.
type reader struct {
	school          api.School
	row, end, wings int
}

// takeAll reads all rows, and says whether they are as they have to be; otherwise row is the first one that is not.
func (r *reader) takeAll(text string) bool {
	for text != "" {
		row, rest, ended := strings.Cut(text, "\n")
		r.row++
		if !ended || !r.take(strings.Split(row, " ")) {
			return false
		}
		text = rest
	}
	if r.end == 0 {
		r.row++
		return false
	}
	return true
}

// take reads the words of a row. What stands behind the row "end" is never taken.
func (r *reader) take(words []string) bool {
	switch {
	case r.end > 0:
		return false
	case r.row == 1:
		return words[0] == "avenue" && takeNumbers(words[1:], &r.school.Route)
	case words[0] == "wing":
		return r.takeWing(words[1:])
	case words[0] == "end":
		r.end = r.row
		return takeNumbers(words[1:], &r.wings)
	}
	return false
}

func (r *reader) takeWing(words []string) bool {
	if len(words) == 0 || words[0] == "" {
		return false
	}
	w := api.Wing{Name: strings.Clone(words[0])}
	if !takeNumbers(words[1:], &w.Length, &w.Pace.Lo, &w.Pace.Hi) {
		return false
	}
	r.school.Wings = append(r.school.Wings, w)
	return true
}

// takeNumbers reads as many numbers as there are places for them.
func takeNumbers(words []string, places ...*int) bool {
	if len(words) != len(places) {
		return false
	}
	for i, word := range words {
		n, ok := number(word)
		if !ok {
			return false
		}
		*places[i] = n
	}
	return true
}

// number reads a number without a sign and needless zeros.
func number(word string) (int, bool) {
	if !within(len(word), 1, maxDigits) || len(word) > 1 && word[0] == '0' {
		return 0, false
	}
	n := 0
	for i := range len(word) {
		if word[i] < '0' || word[i] > '9' {
			return 0, false
		}
		n = 10*n + int(word[i]-'0')
	}
	return n, true
}
