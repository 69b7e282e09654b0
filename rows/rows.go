// Package rows reads and writes the texts that layers have in common: rows of words that are separated by one blank, each row ended by a line feed, and the last one begins with the word "end".
package rows

import (
	"strconv"
	"strings"
)

// Row is a row: what it begins with, and numbers.
func Row(first string, numbers ...int) string {
	row := first
	for _, n := range numbers {
		row += " " + strconv.Itoa(n)
	}
	return row + "\n"
}

// Next returns the words of the first row of a text, and what stands behind it; it is not ok if there is none that is ended.
func Next(text string) (words []string, rest string, ok bool) {
	line, rest, fed := strings.Cut(text, "\n")
	if !fed {
		return nil, "", false
	}
	return strings.Split(line, " "), rest, true
}

// Wrong gives the number (from 1 on) and the words of each row to take, which says whether they are as they have to be.
// It returns the number of the first row that is not, that is not ended or that stands behind the row "end"; if there is no row "end", that of the row behind the last one; and 0 if nothing is wrong.
func Wrong(text string, take func(row int, words []string) bool) int {
	row, ended := 0, false
	for text != "" {
		words, rest, ok := Next(text)
		row++
		if ended || !ok || !take(row, words) {
			return row
		}
		ended = words[0] == "end"
		text = rest
	}
	if !ended {
		return row + 1
	}
	return 0
}

// Numbers reads as many numbers, of at most so many digits, as there are places for them.
func Numbers(words []string, digits int, places ...*int) bool {
	if len(words) != len(places) {
		return false
	}
	for i, word := range words {
		n, ok := number(word, digits)
		if !ok {
			return false
		}
		*places[i] = n
	}
	return true
}

// List reads any number of numbers, of at most so many digits.
func List(words []string, digits int) ([]int, bool) {
	var list []int
	for _, word := range words {
		n, ok := number(word, digits)
		if !ok {
			return nil, false
		}
		list = append(list, n)
	}
	return list, true
}

// number reads a number; none if it is too great for an int.
func number(word string, digits int) (int, bool) {
	if !isNumber(word, digits) {
		return 0, false
	}
	n, err := strconv.Atoi(word)
	if err != nil {
		return 0, false
	}
	return n, true
}

// isNumber says whether a word is a decimal number without a sign and needless zeros.
func isNumber(word string, digits int) bool {
	if word == "" || len(word) > digits || len(word) > 1 && word[0] == '0' {
		return false
	}
	for i := range len(word) {
		if word[i] < '0' || word[i] > '9' {
			return false
		}
	}
	return true
}
