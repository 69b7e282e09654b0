package rows_test

import (
	"slices"
	"strings"
	"testing"

	"bateria/rows"
)

func TestRow(t *testing.T) {
	for want, row := range map[string]string{
		"end\n":             rows.Row("end"),
		"end 0\n":           rows.Row("end", 0),
		"wing abc 1 -2 3\n": rows.Row("wing abc", 1, -2, 3),
	} {
		if row != want {
			t.Errorf("%q %q", row, want)
		}
	}
}

func TestWrong(t *testing.T) {
	for _, c := range []struct {
		text, taken string
		want        int
	}{
		{"end\n", "end", 0},
		{"a b\nend 1\n", "a,b;end,1", 0},
		{"", "", 1},
		{"a\n", "a", 2},
		{"a\nb\n", "a;b", 3},
		{"\nend\n", ";end", 0},
		{"a  b\nend\n", "a,,b;end", 0},
		{" a \nend\n", ",a,;end", 0},
		{"wrong\nend\n", "wrong", 1},
		{"a\nwrong\nend\n", "a;wrong", 2},
		{"a\nend wrong\nx", "a;end,wrong", 2},
		{"a\nend", "a", 2},
		{"a", "", 1},
		{"end\n\n", "end", 2},
		{"end\nx", "end", 2},
		{"end\nend\n", "end", 2},
		{"ends\n", "ends", 2},
	} {
		var taken []string
		wrong := rows.Wrong(c.text, func(row int, words []string) bool {
			taken = append(taken, strings.Join(words, ","))
			return row == len(taken) && !slices.Contains(words, "wrong")
		})
		if wrong != c.want || strings.Join(taken, ";") != c.taken {
			t.Errorf("%q %d %q", c.text, wrong, taken)
		}
	}
}

func TestNumbers(t *testing.T) {
	for _, c := range []struct {
		text string
		a, b int
		ok   bool
	}{
		{"1 2", 1, 2, true},
		{"0 0", 0, 0, true},
		{"999 100", 999, 100, true},
		{"1", 0, 0, false},
		{"1 2 3", 0, 0, false},
		{"1000 2", 0, 0, false},
		{"1 1000", 1, 0, false},
		{"01 2", 0, 0, false},
		{"00 2", 0, 0, false},
		{"-1 2", 0, 0, false},
		{"+1 2", 0, 0, false},
		{"1_0 2", 0, 0, false},
		{"0x1 2", 0, 0, false},
		{"/ 2", 0, 0, false},
		{": 2", 0, 0, false},
		{"1 ", 1, 0, false},
		{" 1", 0, 0, false},
		{"1 \u0663", 1, 0, false},
	} {
		a, b := 0, 0
		if ok := rows.Numbers(strings.Split(c.text, " "), 3, &a, &b); ok != c.ok || a != c.a || b != c.b {
			t.Errorf("%q %d %d %v", c.text, a, b, ok)
		}
	}
	n := 0
	if !rows.Numbers([]string{"9999999999"}, 10, &n) || n != 9999999999 {
		t.Error(n)
	}
	if rows.Numbers([]string{strings.Repeat("9", 30)}, 30, &n) || n != 9999999999 {
		t.Error("a number that is no int:", n)
	}
	if !rows.Numbers(nil, 3) {
		t.Error("no words for no places")
	}
}

func TestList(t *testing.T) {
	for _, c := range []struct {
		text string
		want []int
		ok   bool
	}{
		{"7", []int{7}, true},
		{"0 999 100 0", []int{0, 999, 100, 0}, true},
		{"", nil, false},
		{"1 ", nil, false},
		{" 1", nil, false},
		{"1 1000", nil, false},
		{"1 02", nil, false},
		{"-1 2", nil, false},
		{"1 x 2", nil, false},
	} {
		if list, ok := rows.List(strings.Split(c.text, " "), 3); ok != c.ok || !slices.Equal(list, c.want) {
			t.Errorf("%q %v %v", c.text, list, ok)
		}
	}
	if list, ok := rows.List(nil, 3); !ok || len(list) > 0 {
		t.Error("no words:", list, ok)
	}
	if list, ok := rows.List([]string{"1", strings.Repeat("9", 30)}, 30); ok || len(list) > 0 {
		t.Error("a number that is no int:", list, ok)
	}
}

func TestNext(t *testing.T) {
	for _, c := range []struct {
		text, words, rest string
		ok                bool
	}{
		{"a b\nc\nd", "a,b", "c\nd", true},
		{"a\n", "a", "", true},
		{"\n", "", "", true},
		{"\n\n", "", "\n", true},
		{" a  b \n c", ",a,,b,", " c", true},
		{"a\tb\r\n", "a\tb\r", "", true},
		{"", "", "", false},
		{"a b", "", "", false},
	} {
		words, rest, ok := rows.Next(c.text)
		if strings.Join(words, ",") != c.words || rest != c.rest || ok != c.ok || ok == (len(words) == 0) {
			t.Errorf("%q %q %q %v", c.text, words, rest, ok)
		}
	}
}
