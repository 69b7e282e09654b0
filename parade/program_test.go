package parade_test

import (
	"slices"
	"strings"
	"testing"

	"bateria/api"
	"bateria/parade"
)

const program = "avenue 1000\nwing front 100 40 50\nwing drums 200 50 60\nwing back 100 30 50\nend 3\n"

const head, wing, end = "avenue 9\n", "wing a 5 1 2\n", "end 1\n"

var programs = []struct {
	text string
	row  int
	want api.Errno
}{
	{head + wing + end, 0, api.OK},
	// which row is not as said
	{"", 1, api.ErrForm},
	{"\n", 1, api.ErrForm},
	{"avenue 9", 1, api.ErrForm},
	{"avenue\n", 1, api.ErrForm},
	{"avenue 9 9\n", 1, api.ErrForm},
	{"avenue  9\n", 1, api.ErrForm},
	{" avenue 9\n", 1, api.ErrForm},
	{"avenue 9 \n", 1, api.ErrForm},
	{"avenue\t9\n", 1, api.ErrForm},
	{"avenue 9\r\n", 1, api.ErrForm},
	{"Avenue 9\n", 1, api.ErrForm},
	{wing + head + end, 1, api.ErrForm},
	{end, 1, api.ErrForm},
	{head, 2, api.ErrForm},
	{head + head + wing + end, 2, api.ErrForm},
	{head + "\n" + wing + end, 2, api.ErrForm},
	{head + wing + "wings b 5 1 2\nend 2\n", 3, api.ErrForm},
	{head + wing, 3, api.ErrForm},
	{head + wing + "end 1", 3, api.ErrForm},
	{head + "wing a 5 1 2", 2, api.ErrForm},
	{head + wing + "end\n", 3, api.ErrForm},
	{head + wing + "end 1 1\n", 3, api.ErrForm},
	{head + wing + "end 01\n", 3, api.ErrForm},
	{head + wing + end + "\n", 4, api.ErrForm},
	{head + wing + end + "x", 4, api.ErrForm},
	{head + wing + end + wing, 4, api.ErrForm},
	{head + wing + end + end, 4, api.ErrForm},
	{head + wing + "end 2\n" + end, 4, api.ErrForm},
	// wings
	{head + "wing\n" + end, 2, api.ErrForm},
	{head + "wing a\n" + end, 2, api.ErrForm},
	{head + "wing a 5 1\n" + end, 2, api.ErrForm},
	{head + "wing a 5 1 2 3\n" + end, 2, api.ErrForm},
	{head + "wing  5 1 2\n" + end, 2, api.ErrForm},
	{head + "wing a b 5 1 2\n" + end, 2, api.ErrForm},
	{head + "wing a x 1 2\n" + end, 2, api.ErrForm},
	{head + "wing a 5 x 2\n" + end, 2, api.ErrForm},
	{head + "wing a 5 1 x\n" + end, 2, api.ErrForm},
	// numbers
	{"avenue 09\n" + wing + end, 1, api.ErrForm},
	{"avenue 00\n" + wing + end, 1, api.ErrForm},
	{"avenue +9\n" + wing + end, 1, api.ErrForm},
	{"avenue -9\n" + wing + end, 1, api.ErrForm},
	{"avenue 9:\n" + wing + end, 1, api.ErrForm},
	{"avenue 9/\n" + wing + end, 1, api.ErrForm},
	{"avenue 1000000\n" + wing + end, 1, api.ErrForm},
	{"avenue 999999\n" + wing + end, 0, api.ErrRange},
	{"avenue 0\n" + wing + end, 0, api.ErrRange},
	// the number of wings, only after all rows
	{head + wing + "end 2\n", 3, api.ErrForm},
	{head + wing + "end 0\n", 3, api.ErrForm},
	{head + wing + wing + "end 1\n", 4, api.ErrForm},
	{"avenue 0\n" + end, 2, api.ErrForm},
	// then what Check says
	{head + "end 0\n", 0, api.ErrShort},
	{head + strings.Repeat(wing, 9) + "end 9\n", 0, api.ErrFull},
	{head + "wing A 5 1 2\n" + end, 0, api.ErrForm},
	{head + "wing \r 5 1 2\n" + end, 0, api.ErrForm},
	{head + "wing abcdefghi 5 1 2\n" + end, 0, api.ErrForm},
	{head + wing + wing + "end 2\n", 0, api.ErrExists},
	{head + "wing a 0 1 2\n" + end, 0, api.ErrRange},
	{head + "wing a 5 2 1\n" + end, 0, api.ErrOrder},
	// how long a program may be
	{strings.Repeat("x", 1000), 1, api.ErrForm},
	{strings.Repeat("x", 1001), 0, api.ErrLong},
	{head + "wing " + strings.Repeat("a", 1000-len(head+"wing  5 1 2\n"+end)) + " 5 1 2\n" + end, 0, api.ErrForm},
	{program + strings.Repeat("\n", 1001-len(program)), 0, api.ErrLong},
}

// P1.6: Write.
func TestWrite(t *testing.T) {
	if text, e := parade.Write(samba()); text != program || e != api.OK {
		t.Error(text, e)
	}
	one := api.School{Route: 100000, Wings: []api.Wing{{Name: "abcdefgh", Length: 5000, Pace: span(1, 200)}}}
	if text, e := parade.Write(one); text != "avenue 100000\nwing abcdefgh 5000 1 200\nend 1\n" || e != api.OK {
		t.Error(text, e)
	}
	if text, e := parade.Write(api.School{}); text != "" || e != api.ErrRange {
		t.Error(text, e)
	}
}

// P1.6: Read.
func TestRead(t *testing.T) {
	s, row, e := parade.Read(program)
	if s.Route != 1000 || !slices.Equal(s.Wings, samba().Wings) || row != 0 || e != api.OK {
		t.Error(s, row, e)
	}
	for _, c := range programs {
		s, row, e := parade.Read(c.text)
		if row != c.row || e != c.want {
			t.Errorf("%q: %d %d", c.text, row, e)
		}
		if e != api.OK && (s.Route != 0 || len(s.Wings) > 0) {
			t.Errorf("%q: %v", c.text, s)
		}
	}
}

// P1.14: a program is read from its school, and what is read is written as it was.
func TestWrittenAndRead(t *testing.T) {
	full := api.School{Route: 100000}
	for _, name := range []string{"aaaaaaaa", "bbbbbbbb", "cccccccc", "dddddddd", "eeeeeeee", "ffffffff", "gggggggg", "zzzzzzzz"} {
		full.Wings = append(full.Wings, api.Wing{Name: name, Length: 5000, Pace: span(200, 200)})
	}
	all := []api.School{samba(), full}
	for _, x := range trials(200, 8) {
		all = append(all, x.s)
	}
	for _, s := range all {
		text, e := parade.Write(s)
		if e != api.OK {
			t.Fatal(s, e)
		}
		got, row, e := parade.Read(text)
		if got.Route != s.Route || !slices.Equal(got.Wings, s.Wings) || row != 0 || e != api.OK {
			t.Error(s, got, row, e)
		}
	}
	for at := range len(program) {
		for _, b := range []byte(" \n019az") {
			text := program[:at] + string(rune(b)) + program[at+1:]
			s, _, e := parade.Read(text)
			if e != api.OK {
				continue
			}
			if again, e := parade.Write(s); again != text || e != api.OK {
				t.Errorf("%q %q %d", text, again, e)
			}
		}
	}
}
