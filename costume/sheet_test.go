package costume_test

import (
	"reflect"
	"slices"
	"strings"
	"testing"

	"bateria/api"
	"bateria/costume"
)

const sheet = "persons 40 42 44 44\nwalk 0 5\nwalk 5 0\ndress 10 20\npart 0 0 0 100 120\npart 1 0 0 110 130\npart 0 1 1 145 160\nend 3\n"

const head, on1, end = "persons 4 5\nwalk 0\ndress 1\n", "part 0 0 0 1 2\n", "end 1\n"

var sheets = []struct {
	text string
	row  int
	want api.Errno
}{
	{head + on1 + end, 0, api.OK},
	{head + "end 0\n", 0, api.OK},
	{head + on1 + "part 0 0 0 3 4\nend 2\n", 0, api.OK},
	{"persons 4 5 6 6\nwalk 0 1\nwalk 2 0\ndress 1 2 3\n" + on1 + end, 0, api.OK},
	// which row is not as said
	{"", 1, api.ErrForm},
	{"\n", 1, api.ErrForm},
	{"x", 1, api.ErrForm},
	{"persons 4 5", 1, api.ErrForm},
	{" " + head + on1 + end, 1, api.ErrForm},
	{"Persons 4 5\nwalk 0\ndress 1\nend 0\n", 1, api.ErrForm},
	{"walk 0\n", 1, api.ErrForm},
	{"dress 1\n", 1, api.ErrForm},
	{on1, 1, api.ErrForm},
	{"end 0\n", 1, api.ErrForm},
	{"persons 4 5\n", 2, api.ErrForm},
	{"persons 4 5\nwalk 0\n", 3, api.ErrForm},
	{head, 4, api.ErrForm},
	{head + on1, 5, api.ErrForm},
	{"persons 4 5\npersons 4 5\nwalk 0\ndress 1\nend 0\n", 2, api.ErrForm},
	{"persons 4 5\n\nwalk 0\ndress 1\nend 0\n", 2, api.ErrForm},
	{"persons 4 5\nend 0\n", 2, api.ErrForm},
	{"persons 4 5\n" + on1, 2, api.ErrForm},
	{"persons 4 5\nwalk 0\nend 0\n", 3, api.ErrForm},
	{"persons 4 5\nwalk 0\n" + on1 + end, 3, api.ErrForm},
	{"persons 4 5\nwalk 0\npersons 4 5\ndress 1\nend 0\n", 3, api.ErrForm},
	{"persons 4 5\nwalks 0\ndress 1\nend 0\n", 2, api.ErrForm},
	{"persons 4 5\nwalk 0\ndresses 1\nend 0\n", 3, api.ErrForm},
	{head + "walk 0\nend 0\n", 4, api.ErrForm},
	{head + "dress 1\nend 0\n", 4, api.ErrForm},
	{head + "persons 4 5\nend 0\n", 4, api.ErrForm},
	{head + on1 + "dress 1\nend 1\n", 5, api.ErrForm},
	{head + on1 + "parts 0 0 0 3 4\nend 2\n", 5, api.ErrForm},
	{head + on1 + "\n" + end, 5, api.ErrForm},
	{head + on1 + "end 1", 5, api.ErrForm},
	{head + "part 0 0 0 1 2", 4, api.ErrForm},
	{"persons 4 5\nwalk 0\ndress 1", 3, api.ErrForm},
	{"persons 4 5\nwalk 0", 2, api.ErrForm},
	{head + on1 + end + "\n", 6, api.ErrForm},
	{head + on1 + end + "x", 6, api.ErrForm},
	{head + on1 + end + on1, 6, api.ErrForm},
	{head + on1 + end + end, 6, api.ErrForm},
	// persons
	{"persons 4\nwalk 0\ndress 1\nend 0\n", 1, api.ErrForm},
	{"persons 4 5 6\nwalk 0\ndress 1\nend 0\n", 1, api.ErrForm},
	{"persons 4 x\nwalk 0\ndress 1\nend 0\n", 1, api.ErrForm},
	{"persons  4 5\nwalk 0\ndress 1\nend 0\n", 1, api.ErrForm},
	{"persons 4 5 \nwalk 0\ndress 1\nend 0\n", 1, api.ErrForm},
	{"persons \nwalk 0\ndress 1\nend 0\n", 1, api.ErrForm},
	{"persons\t4 5\nwalk 0\ndress 1\nend 0\n", 1, api.ErrForm},
	{"persons 4 5\r\nwalk 0\ndress 1\nend 0\n", 1, api.ErrForm},
	// walk and dress
	{"persons 4 5\nwalk x\ndress 1\nend 0\n", 2, api.ErrForm},
	{"persons 4 5\nwalk \ndress 1\nend 0\n", 2, api.ErrForm},
	{"persons 4 5\nwalk 0\nwalk 0 -1\ndress 1\nend 0\n", 3, api.ErrForm},
	{"persons 4 5\nwalk 0\ndress x\nend 0\n", 3, api.ErrForm},
	{"persons 4 5\nwalk 0\ndress 1 \nend 0\n", 3, api.ErrForm},
	{"persons 4 5\nwalk 0\ndress  1\nend 0\n", 3, api.ErrForm},
	// parts
	{head + "part\n" + end, 4, api.ErrForm},
	{head + "part 0 0 0 1\n" + end, 4, api.ErrForm},
	{head + "part 0 0 0 1 2 3\n" + end, 4, api.ErrForm},
	{head + "part 0 0 0 1 x\n" + end, 4, api.ErrForm},
	{head + "part 0 0  0 1 2\n" + end, 4, api.ErrForm},
	{head + on1 + "part -1 0 0 1 2\nend 2\n", 5, api.ErrForm},
	// numbers
	{"persons 4 05\nwalk 0\ndress 1\nend 0\n", 1, api.ErrForm},
	{"persons 4 +5\nwalk 0\ndress 1\nend 0\n", 1, api.ErrForm},
	{"persons 4 -5\nwalk 0\ndress 1\nend 0\n", 1, api.ErrForm},
	{"persons 4 5:\nwalk 0\ndress 1\nend 0\n", 1, api.ErrForm},
	{"persons 4 1234567\nwalk 0\ndress 1\nend 0\n", 1, api.ErrForm},
	{"persons 4 123456\nwalk 0\ndress 1\nend 0\n", 0, api.ErrRange},
	{"persons 4 5\nwalk 00\ndress 1\nend 0\n", 2, api.ErrForm},
	{"persons 4 5\nwalk 1234567\ndress 1\nend 0\n", 2, api.ErrForm},
	{"persons 4 5\nwalk 123456\ndress 1\nend 0\n", 0, api.ErrRange},
	{"persons 4 5\nwalk 0\ndress 01\nend 0\n", 3, api.ErrForm},
	{"persons 4 5\nwalk 0\ndress 1234567\nend 0\n", 3, api.ErrForm},
	{"persons 4 5\nwalk 0\ndress 123456\nend 0\n", 0, api.ErrRange},
	{head + "part 0 0 0 1 1234567\n" + end, 4, api.ErrForm},
	{head + "part 0 0 0 1 123456\n" + end, 0, api.ErrRange},
	{head + "part 0 0 0 01 2\n" + end, 4, api.ErrForm},
	// the number of parts is one of the things that are said of the row "end"
	{head + on1 + "end 2\n", 5, api.ErrForm},
	{head + on1 + "end 0\n", 5, api.ErrForm},
	{head + on1 + "end 01\n", 5, api.ErrForm},
	{head + on1 + "end\n", 5, api.ErrForm},
	{head + on1 + "end 1 1\n", 5, api.ErrForm},
	{head + on1 + "end x\n", 5, api.ErrForm},
	{head + on1 + "end 2\n" + on1, 5, api.ErrForm},
	{head + "end 1\n" + on1, 4, api.ErrForm},
	{"persons 0 0\nwalk 0\ndress 1\n" + end, 4, api.ErrForm},
	// then what Check says
	{"persons\nwalk\ndress\nend 0\n", 0, api.ErrShort},
	{"persons 4 5\ndress 1\nend 0\n", 0, api.ErrShort},
	{"persons 4 5\ndress 1\n" + on1 + end, 0, api.ErrShort},
	{"persons 4 5\nwalk 0\ndress\nend 0\n", 0, api.ErrShort},
	{"persons 4 5\nwalk\ndress 1\nend 0\n", 0, api.ErrForm},
	{"persons 4 5\nwalk 0 1\ndress 1\nend 0\n", 0, api.ErrForm},
	{"persons 4 5\nwalk 1\ndress 1\nend 0\n", 0, api.ErrForm},
	{"persons" + strings.Repeat(" 4", 24) + "\nwalk 0\ndress 1\nend 0\n", 0, api.OK},
	{"persons" + strings.Repeat(" 4", 26) + "\nwalk 0\ndress 1\nend 0\n", 0, api.ErrFull},
	{"persons 4 5\n" + strings.Repeat("walk 0\n", 9) + "dress 1\nend 0\n", 0, api.ErrFull},
	{"persons 4 5\nwalk 0\ndress" + strings.Repeat(" 1", 9) + "\nend 0\n", 0, api.ErrFull},
	{head + strings.Repeat(on1, 31) + "end 31\n", 0, api.ErrFull},
	{"persons 5 4\nwalk 0\ndress 1\n" + on1 + end, 0, api.ErrOrder},
	{"persons 0 4\nwalk 0\ndress 1\n" + on1 + end, 0, api.ErrRange},
	{head + "part 1 0 0 1 2\n" + end, 0, api.ErrMissing},
	{head + "part 0 0 0 2 1\n" + end, 0, api.ErrOrder},
	{head + on1 + on1 + "end 2\n", 0, api.ErrClash},
	{"persons 4 5\nwalk 0\ndress 1 1\n" + on1 + "part 0 0 1 2 3\nend 2\n", 0, api.ErrLate},
	// how long a sheet may be
	{strings.Repeat("x", 2000), 1, api.ErrForm},
	{strings.Repeat("x", 2001), 0, api.ErrLong},
	{sheet + strings.Repeat("\n", 2000-len(sheet)), 9, api.ErrForm},
	{sheet + strings.Repeat("\n", 2001-len(sheet)), 0, api.ErrLong},
	{"persons" + strings.Repeat(" 4", 982) + "\nwalk 0\ndress 1\nend 0\n", 0, api.ErrFull},
}

// P3.4: Write.
func TestWrite(t *testing.T) {
	if text, e := costume.Write(troupe()); text != sheet || e != api.OK {
		t.Error(text, e)
	}
	least := api.Plot{Persons: []api.Span{one(1)}, Walk: [][]int{{0}}, Dress: []int{0}}
	if text, e := costume.Write(least); text != "persons 1 1\nwalk 0\ndress 0\nend 0\n" || e != api.OK {
		t.Error(text, e)
	}
	text, e := costume.Write(greatest())
	if !strings.HasPrefix(text, "persons"+strings.Repeat(" 300", 24)+"\nwalk 0"+strings.Repeat(" 1440", 7)+"\nwalk 1440 0") || e != api.OK {
		t.Error(text, e)
	}
	if !strings.HasSuffix(text, "\ndress"+strings.Repeat(" 1440", 8)+"\npart 11 7 7 1410 1411\n"+text[strings.Index(text, "part 11 7 7 1411"):]) || !strings.HasSuffix(text, "\npart 11 7 7 1439 1440\nend 30\n") {
		t.Error(text)
	}
}

// P3.4: Read.
func TestRead(t *testing.T) {
	p, row, e := costume.Read(sheet)
	if !reflect.DeepEqual(p, troupe()) || row != 0 || e != api.OK {
		t.Error(p, row, e)
	}
	for _, c := range sheets {
		p, row, e := costume.Read(c.text)
		if row != c.row || e != c.want {
			t.Errorf("%q: %d %d", c.text, row, e)
		}
		if e != api.OK && !reflect.DeepEqual(p, api.Plot{}) {
			t.Errorf("%q: %v", c.text, p)
		}
	}
}

func same(a, b api.Plot) bool {
	return slices.Equal(a.Persons, b.Persons) && slices.EqualFunc(a.Walk, b.Walk, slices.Equal[[]int]) && slices.Equal(a.Dress, b.Dress) && slices.Equal(a.Parts, b.Parts)
}

// P3.12: a sheet is read from its plot, and what is read is written as it was.
func TestWrittenAndRead(t *testing.T) {
	all := []api.Plot{troupe(), greatest()}
	for _, x := range trials(300, 20, 0) {
		all = append(all, x.p)
	}
	for _, p := range all {
		text, e := costume.Write(p)
		if e != api.OK || len(text) > api.MaxSheet {
			t.Fatal(p, len(text), e)
		}
		if got, row, e := costume.Read(text); !same(got, p) || row != 0 || e != api.OK {
			t.Error(p, got, row, e)
		}
	}
	read := 0
	for at := range len(sheet) {
		for _, b := range []byte(" \n0149-ae") {
			text := sheet[:at] + string(rune(b)) + sheet[at+1:]
			p, _, e := costume.Read(text)
			if e != api.OK {
				continue
			}
			read++
			if again, e := costume.Write(p); again != text || e != api.OK {
				t.Errorf("%q %q %d", text, again, e)
			}
		}
	}
	if read < len(sheet) {
		t.Error("few sheets were read:", read)
	}
}
