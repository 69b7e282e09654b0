package night

import (
	"iter"
	"strconv"
	"strings"

	"bateria/api"
	"bateria/rows"
)

const maxDigits = 7

// anyNumbers stands in a form for any number of numbers, each other letter for one number.
const anyNumbers = '*'

// word is what a line may begin with: which numbers stand behind it, and what it does.
type word struct {
	form string
	do   func(d *desk, numbers []int) (string, api.Errno)
}

func vocabulary() map[string]word {
	return map[string]word{
		"at":     {"N", (*desk).at},
		"wing":   {"", (*desk).wing},
		"place":  {"W", (*desk).place},
		"gap":    {"W", (*desk).gap},
		"lasts":  {"", (*desk).lasts},
		"open":   {"MJS*", (*desk).open},
		"absent": {"MJ", (*desk).absent},
		"fine":   {"SP", (*desk).fine},
		"places": {"", (*desk).places},
		"winner": {"", (*desk).winner},
		"table":  {"", (*desk).table},
		"band":   {"FABSP*", (*desk).band},
		"heard":  {"Q", (*desk).heard},
		"sleep":  {"Q", (*desk).sleep},
		"bill":   {"UN", (*desk).bill},
		"left":   {"F", (*desk).left},
		"trace":  {"K", (*desk).trace},
	}
}

// takes says whether so many numbers are as many as the form says.
func (w word) takes(many int) bool {
	for _, letter := range w.form {
		if letter == anyNumbers {
			return many >= 0
		}
		many--
	}
	return many == 0
}

// words hands out the words of a line, each with its number.
func words(line string) iter.Seq2[int, string] {
	return func(yield func(int, string) bool) {
		for i, text := range strings.Split(line, " ") {
			if !yield(i, text) {
				return
			}
		}
	}
}

// read returns the first word of a line and the numbers behind it; it is not ok if the line is not built so.
func read(line string) (first string, numbers []int, ok bool) {
	for i, text := range words(line) {
		n := 0
		switch {
		case i == 0:
			first = text
		case rows.Numbers([]string{text}, maxDigits, &n):
			numbers = append(numbers, n)
		default:
			return "", nil, false
		}
	}
	return first, numbers, true
}

// reply does a line and returns the reply to it.
func (d *desk) reply(line string) string {
	text, e := d.do(line)
	if e != api.OK {
		return rows.Row("error", int(e))
	}
	return text
}

// do does a line. What it returns beside an error means nothing.
func (d *desk) do(line string) (string, api.Errno) {
	first, numbers, ok := read(line)
	w, known := vocabulary()[first]
	if !ok || !known || !w.takes(len(numbers)) {
		return "", api.ErrForm
	}
	return w.do(d, numbers)
}

// list is a reply of numbers alone, or that there are none.
func list(numbers ...int) string {
	if len(numbers) == 0 {
		return rows.Row("none")
	}
	return rows.Row(strconv.Itoa(numbers[0]), numbers[1:]...)
}
