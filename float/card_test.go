package float_test

import (
	"reflect"
	"slices"
	"strings"
	"testing"

	"bateria/api"
	"bateria/float"
)

const card = "float 1000 300 200 800 900 4000 500 400\nload 300 500 600 450 500 1 0\nload 700 1000 1000 380 380 2 5000\nload 500 100 200 300 350 3 3000\nload 600 50 50 400 520 4 0\nend 4\n"

const head, load, end = "float 2 1 0 1 0 0 0 0\n", "load 0 1 2 3 4 1 0\n", "end 1\n"

var cards = []struct {
	text string
	row  int
	want api.Errno
}{
	{head + load + end, 0, api.OK},
	{head + "end 0\n", 0, api.OK},
	{head + load + load + "end 2\n", 0, api.OK},
	// which row is not as said
	{"", 1, api.ErrForm},
	{"\n", 1, api.ErrForm},
	{"float 2 1 0 1 0 0 0 0", 1, api.ErrForm},
	{"float\n", 1, api.ErrForm},
	{"float 2 1 0 1 0 0 0\n", 1, api.ErrForm},
	{"float 2 1 0 1 0 0 0 0 0\n", 1, api.ErrForm},
	{"float  2 1 0 1 0 0 0 0\n", 1, api.ErrForm},
	{" float 2 1 0 1 0 0 0 0\n", 1, api.ErrForm},
	{"float 2 1 0 1 0 0 0 0 \n", 1, api.ErrForm},
	{"float\t2 1 0 1 0 0 0 0\n", 1, api.ErrForm},
	{"float 2 1 0 1 0 0 0 0\r\n", 1, api.ErrForm},
	{"Float 2 1 0 1 0 0 0 0\n", 1, api.ErrForm},
	{"load 2 1 0 1 0 0 0 0\n", 1, api.ErrForm},
	{load + head + end, 1, api.ErrForm},
	{end, 1, api.ErrForm},
	{"end 0\n", 1, api.ErrForm},
	{head, 2, api.ErrForm},
	{head + head + load + end, 2, api.ErrForm},
	{head + load + head + end, 3, api.ErrForm},
	{head + "\n" + load + end, 2, api.ErrForm},
	{head + load + "loads 0 1 2 3 4 1 0\nend 2\n", 3, api.ErrForm},
	{head + load, 3, api.ErrForm},
	{head + load + "end 1", 3, api.ErrForm},
	{head + "load 0 1 2 3 4 1 0", 2, api.ErrForm},
	{head + load + "end\n", 3, api.ErrForm},
	{head + load + "end 1 1\n", 3, api.ErrForm},
	{head + load + "end 01\n", 3, api.ErrForm},
	{head + load + "end x\n", 3, api.ErrForm},
	{head + load + end + "\n", 4, api.ErrForm},
	{head + load + end + "x", 4, api.ErrForm},
	{head + load + end + load, 4, api.ErrForm},
	{head + load + end + end, 4, api.ErrForm},
	// loads
	{head + "load\n" + end, 2, api.ErrForm},
	{head + "load 0 1 2 3 4 1\n" + end, 2, api.ErrForm},
	{head + "load 0 1 2 3 4 1 0 0\n" + end, 2, api.ErrForm},
	{head + "load 0 1  2 3 4 1 0\n" + end, 2, api.ErrForm},
	{head + "load x 1 2 3 4 1 0\n" + end, 2, api.ErrForm},
	{head + "load 0 1 2 3 4 1 -1\n" + end, 2, api.ErrForm},
	{head + load + "load 0 1 2 3 4 1 x\nend 2\n", 3, api.ErrForm},
	// numbers
	{"float 02 1 0 1 0 0 0 0\n" + load + end, 1, api.ErrForm},
	{"float 2 1 00 1 0 0 0 0\n" + load + end, 1, api.ErrForm},
	{"float +2 1 0 1 0 0 0 0\n" + load + end, 1, api.ErrForm},
	{"float -2 1 0 1 0 0 0 0\n" + load + end, 1, api.ErrForm},
	{"float 2: 1 0 1 0 0 0 0\n" + load + end, 1, api.ErrForm},
	{"float 2/ 1 0 1 0 0 0 0\n" + load + end, 1, api.ErrForm},
	{"float 10000000 1 0 1 0 0 0 0\n" + load + end, 1, api.ErrForm},
	{"float 9999999 1 0 1 0 0 0 0\n" + load + end, 0, api.ErrRange},
	{head + "load 0 1 2 3 4 2 1000000\n" + end, 0, api.OK},
	{head + "load 0 1 2 3 4 2 10000000\n" + end, 2, api.ErrForm},
	// the number of loads is one of the things that are said of the row "end"
	{head + load + "end 2\n", 3, api.ErrForm},
	{head + load + "end 0\n", 3, api.ErrForm},
	{head + load + load + end, 4, api.ErrForm},
	{head + load + "end 2\n" + load, 3, api.ErrForm},
	{head + "end 1\n" + load, 2, api.ErrForm},
	{"float 0 1 0 1 0 0 0 0\n" + end, 2, api.ErrForm},
	// then what Check says
	{"float 0 1 0 1 0 0 0 0\n" + load + end, 0, api.ErrRange},
	{"float 2 1 1 1 0 0 0 0\n" + load + end, 0, api.ErrOrder},
	{head + strings.Repeat(load, 20) + "end 20\n", 0, api.OK},
	{head + strings.Repeat(load, 21) + "end 21\n", 0, api.ErrFull},
	{head + "load 2 1 2 3 4 1 0\n" + end, 0, api.ErrRange},
	{head + "load 0 2 1 3 4 1 0\n" + end, 0, api.ErrOrder},
	{head + "load 0 1 2 4 3 1 0\n" + end, 0, api.ErrOrder},
	{head + "load 0 1 2 3 4 0 0\n" + end, 0, api.ErrKind},
	{head + "load 0 1 2 3 4 5 0\n" + end, 0, api.ErrKind},
	{head + "load 0 1 2 3 4 1 1\n" + end, 0, api.ErrForm},
	// how long a card may be
	{strings.Repeat("x", 3000), 1, api.ErrForm},
	{strings.Repeat("x", 3001), 0, api.ErrLong},
	{card + strings.Repeat("\n", 3000-len(card)), 7, api.ErrForm},
	{card + strings.Repeat("\n", 3001-len(card)), 0, api.ErrLong},
}

// P2.5: Write.
func TestWrite(t *testing.T) {
	if text, e := float.Write(dragon()); text != card || e != api.OK {
		t.Error(text, e)
	}
	least := api.Float{Length: 1, Width: 1, Rear: 1}
	if text, e := float.Write(least); text != "float 1 1 0 1 0 0 0 0\nend 0\n" || e != api.OK {
		t.Error(text, e)
	}
	want := "float 3000 1000 0 3000 20000 100000 3000 2000\n" + strings.Repeat("load 3000 100000 100000 2000 2000 3 1000000\n", 20) + "end 20\n"
	if text, e := float.Write(greatest()); text != want || e != api.OK {
		t.Error(text, e)
	}
}

// P2.5: Read.
func TestRead(t *testing.T) {
	f, row, e := float.Read(card)
	if !reflect.DeepEqual(f, dragon()) || row != 0 || e != api.OK {
		t.Error(f, row, e)
	}
	for _, c := range cards {
		f, row, e := float.Read(c.text)
		if row != c.row || e != c.want {
			t.Errorf("%q: %d %d", c.text, row, e)
		}
		if e != api.OK && !reflect.DeepEqual(f, api.Float{}) {
			t.Errorf("%q: %v", c.text, f)
		}
	}
}

func same(a, b api.Float) bool {
	loads := slices.Equal(a.Loads, b.Loads)
	a.Loads, b.Loads = nil, nil
	return loads && reflect.DeepEqual(a, b)
}

// P2.14: a card is read from its float, and what is read is written as it was.
func TestWrittenAndRead(t *testing.T) {
	all := []api.Float{dragon(), greatest()}
	for _, x := range trials(300, 20) {
		all = append(all, x.f)
	}
	for _, f := range all {
		text, e := float.Write(f)
		if e != api.OK {
			t.Fatal(f, e)
		}
		if got, row, e := float.Read(text); !same(got, f) || row != 0 || e != api.OK {
			t.Error(f, got, row, e)
		}
	}
	read := 0
	for at := range len(card) {
		for _, b := range []byte(" \n019-ae") {
			text := card[:at] + string(rune(b)) + card[at+1:]
			f, _, e := float.Read(text)
			if e != api.OK {
				continue
			}
			read++
			if again, e := float.Write(f); again != text || e != api.OK {
				t.Errorf("%q %q %d", text, again, e)
			}
		}
	}
	if read < len(card) {
		t.Error("few cards were read:", read)
	}
}
