package crowd_test

import (
	"reflect"
	"slices"
	"strings"
	"testing"

	"bateria/api"
	"bateria/crowd"
)

const charter = `town 6
square 110
square 80
square 50
street 0 1
street 1 2
street 0 2
group 60 70 0 0 2 0 0 1
group 20 40 1 2 1 0 2
end 2
`

// head is a town of two squares, street1 a street between them, group1 a group that goes along it.
const head, street1, group1, end = "town 9\nsquare 5\nsquare 6\n", "street 0 1\n", "group 1 2 3 4 5 0 0\n", "end 1\n"

var texts = []struct {
	text string
	row  int
	want api.Errno
}{
	{charter, 0, api.OK},
	{head + "end 0\n", 0, api.OK},
	{head + street1 + "end 0\n", 0, api.OK},
	{head + street1 + group1 + end, 0, api.OK},
	{head + street1 + group1 + group1 + "end 2\n", 0, api.OK},
	{head + "group 1 2 3 4 5 0\n" + end, 0, api.OK},
	{"town 0\nsquare 0\nend 0\n", 0, api.OK},
	// which row is not as said
	{"", 1, api.ErrForm},
	{"\n", 1, api.ErrForm},
	{"x", 1, api.ErrForm},
	{"town 9", 1, api.ErrForm},
	{" " + head + "end 0\n", 1, api.ErrForm},
	{"\n" + head + "end 0\n", 1, api.ErrForm},
	{"Town 9\nsquare 5\nend 0\n", 1, api.ErrForm},
	{"towns 9\nsquare 5\nend 0\n", 1, api.ErrForm},
	{"square 5\ntown 9\nend 0\n", 1, api.ErrForm},
	{street1 + "end 0\n", 1, api.ErrForm},
	{group1 + end, 1, api.ErrForm},
	{"end 0\n", 1, api.ErrForm},
	{"town 9\n", 2, api.ErrForm},
	{"town 9\nsquare 5", 2, api.ErrForm},
	{"town 9\n\nsquare 5\nend 0\n", 2, api.ErrForm},
	{"town 9\ntown 9\nsquare 5\nend 0\n", 2, api.ErrForm},
	{"town 9\nsquares 5\nend 0\n", 2, api.ErrForm},
	{"town 9\nSquare 5\nend 0\n", 2, api.ErrForm},
	{head, 4, api.ErrForm},
	{head + street1, 5, api.ErrForm},
	{head + street1 + group1, 6, api.ErrForm},
	{head + "town 9\nend 0\n", 4, api.ErrForm},
	{head + "\nend 0\n", 4, api.ErrForm},
	{head + "streets 0 1\nend 0\n", 4, api.ErrForm},
	{head + "groups 1 2 3 4 5 0\nend 1\n", 4, api.ErrForm},
	{head + "ends 0\n", 4, api.ErrForm},
	{head + "x\n" + "square\n", 4, api.ErrForm},
	// in which order rows come
	{head + street1 + "square 5\nend 0\n", 5, api.ErrForm},
	{head + "group 1 2 3 4 5 0\nsquare 5\nend 1\n", 5, api.ErrForm},
	{head + "group 1 2 3 4 5 0\n" + street1 + end, 5, api.ErrForm},
	{head + street1 + group1 + "square 5\nend 1\n", 6, api.ErrForm},
	{head + street1 + group1 + street1 + end, 6, api.ErrForm},
	{head + street1 + group1 + "town 9\nend 1\n", 6, api.ErrForm},
	{"town 9\n" + street1 + "square 5\nsquare 6\nend 0\n", 3, api.ErrForm},
	// rows that no row stands behind
	{"town 9\nend 0\n", 0, api.ErrShort},
	{"town 9\n" + street1 + "end 0\n", 0, api.ErrShort},
	{"town 9\ngroup 1 2 3 4 5 0\nend 1\n", 0, api.ErrShort},
	// the last row
	{head + "end 0", 4, api.ErrForm},
	{head + street1 + group1 + "end 1", 6, api.ErrForm},
	{head + "street 0 1", 4, api.ErrForm},
	{head + "group 1 2 3 4 5 0", 4, api.ErrForm},
	{head + "end 0\n\n", 5, api.ErrForm},
	{head + "end 0\nx", 5, api.ErrForm},
	{head + "end 0\n" + street1, 5, api.ErrForm},
	{head + street1 + group1 + end + end, 7, api.ErrForm},
	{head + street1 + group1 + end + group1, 7, api.ErrForm},
	// the row "town": one number
	{"town\nsquare 5\nend 0\n", 1, api.ErrForm},
	{"town \nsquare 5\nend 0\n", 1, api.ErrForm},
	{"town 9 9\nsquare 5\nend 0\n", 1, api.ErrForm},
	{"town x\nsquare 5\nend 0\n", 1, api.ErrForm},
	{"town  9\nsquare 5\nend 0\n", 1, api.ErrForm},
	{"town 9 \nsquare 5\nend 0\n", 1, api.ErrForm},
	{"town\t9\nsquare 5\nend 0\n", 1, api.ErrForm},
	{"town 9\r\nsquare 5\nend 0\n", 1, api.ErrForm},
	// a row "square": one number
	{"town 9\nsquare\nend 0\n", 2, api.ErrForm},
	{"town 9\nsquare 5 5\nend 0\n", 2, api.ErrForm},
	{"town 9\nsquare x\nend 0\n", 2, api.ErrForm},
	{"town 9\nsquare  5\nend 0\n", 2, api.ErrForm},
	{"town 9\nsquare 5 \nend 0\n", 2, api.ErrForm},
	{"town 9\nsquare -5\nend 0\n", 2, api.ErrForm},
	{head + "square\nend 0\n", 4, api.ErrForm},
	// a row "street": two numbers
	{head + "street\nend 0\n", 4, api.ErrForm},
	{head + "street 0\nend 0\n", 4, api.ErrForm},
	{head + "street 0 1 2\nend 0\n", 4, api.ErrForm},
	{head + "street 0 x\nend 0\n", 4, api.ErrForm},
	{head + "street 0 1 \nend 0\n", 4, api.ErrForm},
	{head + "street 0  1\nend 0\n", 4, api.ErrForm},
	{head + street1 + "street 0 -1\nend 0\n", 5, api.ErrForm},
	// a row "group": six numbers or more
	{head + "group\nend 1\n", 4, api.ErrForm},
	{head + "group 1\nend 1\n", 4, api.ErrForm},
	{head + "group 1 2 3 4 5\nend 1\n", 4, api.ErrForm},
	{head + "group 1 2 3 4 5 \nend 1\n", 4, api.ErrForm},
	{head + "group 1 2 3 4 5 0 \nend 1\n", 4, api.ErrForm},
	{head + "group 1 2 3 4 5 0 x\nend 1\n", 4, api.ErrForm},
	{head + "group 1 2 3 4 x 0\nend 1\n", 4, api.ErrForm},
	{head + "group 1 2 3 4 5  0\nend 1\n", 4, api.ErrForm},
	{head + "group -1 2 3 4 5 0\nend 1\n", 4, api.ErrForm},
	{head + street1 + group1 + "group 1 2 3 4 5 0 00\nend 2\n", 6, api.ErrForm},
	{head + street1 + "group 1 2 3 4 5 0" + strings.Repeat(" 0", 12) + "\nend 1\n", 0, api.OK},
	{head + street1 + "group 1 2 3 4 5 0" + strings.Repeat(" 0", 13) + "\nend 1\n", 0, api.ErrFull},
	// numbers
	{"town 09\nsquare 5\nend 0\n", 1, api.ErrForm},
	{"town 00\nsquare 5\nend 0\n", 1, api.ErrForm},
	{"town +9\nsquare 5\nend 0\n", 1, api.ErrForm},
	{"town 12345678\nsquare 5\nend 0\n", 1, api.ErrForm},
	{"town 00000009\nsquare 5\nend 0\n", 1, api.ErrForm},
	{"town 9999999\nsquare 5\nend 0\n", 0, api.ErrRange},
	{"town 9\nsquare 05\nend 0\n", 2, api.ErrForm},
	{"town 9\nsquare 12345678\nend 0\n", 2, api.ErrForm},
	{"town 9\nsquare 9999999\nend 0\n", 0, api.ErrRange},
	{"town 9\nsquare 1000000\nend 0\n", 0, api.OK},
	{head + "street 0 01\nend 0\n", 4, api.ErrForm},
	{head + "street 0 12345678\nend 0\n", 4, api.ErrForm},
	{head + "street 0 9999999\nend 0\n", 0, api.ErrMissing},
	{head + "group 1 12345678 3 4 5 0\nend 1\n", 4, api.ErrForm},
	{head + "group 1 9999999 3 4 5 0\nend 1\n", 0, api.ErrRange},
	{head + "group 1 1000000 3 4 5 0\nend 1\n", 0, api.OK},
	{head + "group 1 2 3 4 5 0 12345678\nend 1\n", 4, api.ErrForm},
	{head + "group 1 2 3 4 5 0 9999999\nend 1\n", 0, api.ErrMissing},
	// the number of groups is one of the things that are said of the row "end"
	{head + "end\n", 4, api.ErrForm},
	{head + "end 1\n", 4, api.ErrForm},
	{head + "end 00\n", 4, api.ErrForm},
	{head + "end x\n", 4, api.ErrForm},
	{head + "end 0 0\n", 4, api.ErrForm},
	{head + "end 0 \n", 4, api.ErrForm},
	{head + street1 + "end 1\n", 5, api.ErrForm},
	{head + street1 + group1 + "end 0\n", 6, api.ErrForm},
	{head + street1 + group1 + "end 2\n", 6, api.ErrForm},
	{head + street1 + group1 + "end 01\n", 6, api.ErrForm},
	{head + street1 + group1 + "end 2\n" + group1, 6, api.ErrForm},
	{"town 97\nsquare 5\nend 1\n", 3, api.ErrForm},
	// then what Check says
	{"town 97\nsquare 5\nend 0\n", 0, api.ErrRange},
	{"town 9\n" + strings.Repeat("square 5\n", 12) + "end 0\n", 0, api.OK},
	{"town 9\n" + strings.Repeat("square 5\n", 13) + "end 0\n", 0, api.ErrFull},
	{"town 9\nsquare 1000001\nend 0\n", 0, api.ErrRange},
	{head + strings.Repeat(street1, 12) + "end 0\n", 0, api.OK},
	{head + strings.Repeat(street1, 13) + "end 0\n", 0, api.ErrFull},
	{head + "street 0 2\nend 0\n", 0, api.ErrMissing},
	{head + "street 1 1\nend 0\n", 0, api.ErrForm},
	{head + street1 + strings.Repeat(group1, 12) + "end 12\n", 0, api.OK},
	{head + street1 + strings.Repeat(group1, 13) + "end 13\n", 0, api.ErrFull},
	{head + "group 2 1 3 4 5 0\nend 1\n", 0, api.ErrOrder},
	{head + "group 1 2 4 3 5 0\nend 1\n", 0, api.ErrOrder},
	{head + "group 1 2 3 97 5 0\nend 1\n", 0, api.ErrRange},
	{head + "group 1 2 3 4 0 0\nend 1\n", 0, api.ErrRange},
	{head + "group 1 2 3 4 5 2\nend 1\n", 0, api.ErrMissing},
	{head + "group 1 2 3 4 5 0 0\nend 1\n", 0, api.ErrMissing},
	{head + "square 7\nstreet 0 1\ngroup 1 2 3 4 5 2 0\nend 1\n", 0, api.ErrForm},
	// how long a charter may be
	{strings.Repeat("x", 4000), 1, api.ErrForm},
	{strings.Repeat("x", 4001), 0, api.ErrLong},
	{charter + strings.Repeat("\n", 4000-len(charter)), 11, api.ErrForm},
	{charter + strings.Repeat("\n", 4001-len(charter)), 0, api.ErrLong},
}

// P6.6: Write.
func TestWrite(t *testing.T) {
	if text, e := crowd.Write(plaza()); text != charter || e != api.OK {
		t.Error(text, e)
	}
	if text, e := crowd.Write(api.Town{Rooms: []int{0}}); text != "town 0\nsquare 0\nend 0\n" || e != api.OK {
		t.Error(text, e)
	}
	want := "town 96\n" + strings.Repeat("square 1000000\n", 12) + strings.Repeat("street 10 11\n", 12) + strings.Repeat("group 1000000 1000000 96 96 96 10"+strings.Repeat(" 11", 12)+"\n", 12) + "end 12\n"
	if text, e := crowd.Write(greatest()); text != want || e != api.OK {
		t.Error(text, e)
	}
}

// P6.6: Read.
func TestRead(t *testing.T) {
	if town, row, e := crowd.Read(charter); !sameTown(town, plaza()) || row != 0 || e != api.OK {
		t.Error(town, row, e)
	}
	for _, x := range texts {
		town, row, e := crowd.Read(x.text)
		if row != x.row || e != x.want {
			t.Errorf("%q: %d %d", x.text, row, e)
		}
		if e != api.OK && !reflect.DeepEqual(town, api.Town{}) {
			t.Errorf("%q: %v", x.text, town)
		}
		if again, e2 := crowd.Write(town); e == api.OK && (again != x.text || e2 != api.OK) {
			t.Errorf("%q: %q %d", x.text, again, e2)
		}
	}
}

// P6.14: a charter is read from its town, and what is read is written as it was.
func TestCharters(t *testing.T) {
	for _, x := range slices.Concat(trials(300), large(300), []api.Town{plaza(), greatest(), dense(4, 8)}) {
		text, e := crowd.Write(x)
		if e != api.OK || len(text) > api.MaxCharter {
			t.Error(x, len(text), e)
		}
		town, row, e := crowd.Read(text)
		if !sameTown(town, x) || row != 0 || e != api.OK {
			t.Error(x, town, row, e)
		}
		if again, e := crowd.Write(town); again != text || e != api.OK {
			t.Error(x, again, e)
		}
	}
}

// P6.6 and P6.14: with any byte another one, charters that are read are written as they were; and those that are not have a row if it is not as said.
func TestBytes(t *testing.T) {
	text := head + street1 + "street 1 0\n" + group1 + "group 10 20 0 1 2 1 1\n" + "end 2\n"
	read, forms := 0, 0
	for i := range len(text) {
		for _, b := range []byte("\n 0129xe\x00\xff") {
			for _, other := range []string{text[:i] + string([]byte{b}) + text[i+1:], text[:i] + string([]byte{b}) + text[i:], text[:i] + text[i+1:], text[:i]} {
				town, row, e := crowd.Read(other)
				switch {
				case e == api.OK:
					read++
					if again, e := crowd.Write(town); again != other || row != 0 || e != api.OK {
						t.Errorf("%q %q %d %d", other, again, row, e)
					}
				case row > 0:
					forms++
					if e != api.ErrForm || row > strings.Count(other, "\n")+1 {
						t.Errorf("%q %d %d", other, row, e)
					}
				}
			}
		}
	}
	if read < 100 || forms < 500 {
		t.Error("few charters of a kind:", read, forms)
	}
}
