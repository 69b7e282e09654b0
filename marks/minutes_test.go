package marks_test

import (
	"reflect"
	"slices"
	"strings"
	"testing"

	"bateria/api"
	"bateria/marks"
)

const minutes = `scale 3 2 3 1 50 100
order 1 0
marks 0 0 633 100 90 80
marks 0 1 655 90 100 80
marks 0 2 707 95 95 95
marks 1 0 774 80 90 100
marks 1 1 736 100 70 90
absent 1 2
fine 2 5
end 5
`

// head is a scale of one school, one matter and three judges; marks1 is an envelope for it.
const head, marks1, absent1, fine1, end = "scale 1 1 3 0 0 9\norder 0\n", "marks 0 0 118 5\n", "absent 0 1\n", "fine 0 3\n", "end 1\n"

var texts = []struct {
	text string
	row  int
	want api.Errno
}{
	{minutes, 0, api.OK},
	{head + "end 0\n", 0, api.OK},
	{head + marks1 + absent1 + fine1 + end, 0, api.OK},
	{head + marks1 + marks1 + absent1 + absent1 + fine1 + fine1 + "end 2\n", 0, api.OK},
	{head + absent1 + "end 0\n", 0, api.OK},
	{head + fine1 + "end 0\n", 0, api.OK},
	{head + marks1 + fine1 + end, 0, api.OK},
	// which row is not as said
	{"", 1, api.ErrForm},
	{"\n", 1, api.ErrForm},
	{"x", 1, api.ErrForm},
	{"scale 1 1 3 0 0 9", 1, api.ErrForm},
	{" " + head + "end 0\n", 1, api.ErrForm},
	{"\n" + head + "end 0\n", 1, api.ErrForm},
	{"Scale 1 1 3 0 0 9\norder 0\nend 0\n", 1, api.ErrForm},
	{"scales 1 1 3 0 0 9\norder 0\nend 0\n", 1, api.ErrForm},
	{"order 0\n" + head + "end 0\n", 1, api.ErrForm},
	{marks1 + end, 1, api.ErrForm},
	{absent1 + "end 0\n", 1, api.ErrForm},
	{fine1 + "end 0\n", 1, api.ErrForm},
	{"end 0\n", 1, api.ErrForm},
	{"scale 1 1 3 0 0 9\n", 2, api.ErrForm},
	{"scale 1 1 3 0 0 9\norder 0", 2, api.ErrForm},
	{"scale 1 1 3 0 0 9\n\norder 0\nend 0\n", 2, api.ErrForm},
	{"scale 1 1 3 0 0 9\nend 0\n", 2, api.ErrForm},
	{"scale 1 1 3 0 0 9\n" + marks1 + "order 0\nend 1\n", 2, api.ErrForm},
	{"scale 1 1 3 0 0 9\n" + absent1 + "order 0\nend 0\n", 2, api.ErrForm},
	{"scale 1 1 3 0 0 9\n" + fine1 + "order 0\nend 0\n", 2, api.ErrForm},
	{"scale 1 1 3 0 0 9\n" + head + "end 0\n", 2, api.ErrForm},
	{"scale 1 1 3 0 0 9\norders 0\nend 0\n", 2, api.ErrForm},
	{head, 3, api.ErrForm},
	{head + "\nend 0\n", 3, api.ErrForm},
	{head + "order 0\nend 0\n", 3, api.ErrForm},
	{head + head + "end 0\n", 3, api.ErrForm},
	{head + "mark 0 0 118 5\nend 1\n", 3, api.ErrForm},
	{head + "Marks 0 0 118 5\nend 1\n", 3, api.ErrForm},
	{head + "absents 0 1\nend 0\n", 3, api.ErrForm},
	{head + "fines 0 3\nend 0\n", 3, api.ErrForm},
	{head + "ends 0\n", 3, api.ErrForm},
	{head + marks1, 4, api.ErrForm},
	{head + marks1 + absent1 + fine1, 6, api.ErrForm},
	{head + marks1 + "scale 1 1 3 0 0 9\nend 1\n", 4, api.ErrForm},
	{head + marks1 + "order 0\nend 1\n", 4, api.ErrForm},
	// in which order rows come
	{head + absent1 + marks1 + end, 4, api.ErrForm},
	{head + marks1 + absent1 + marks1 + "end 2\n", 5, api.ErrForm},
	{head + fine1 + marks1 + end, 4, api.ErrForm},
	{head + fine1 + absent1 + "end 0\n", 4, api.ErrForm},
	{head + marks1 + fine1 + absent1 + end, 5, api.ErrForm},
	{head + marks1 + absent1 + fine1 + marks1 + "end 2\n", 6, api.ErrForm},
	{head + marks1 + absent1 + fine1 + absent1 + end, 6, api.ErrForm},
	// the last row
	{head + "end 0", 3, api.ErrForm},
	{head + marks1 + "end 1", 4, api.ErrForm},
	{head + "marks 0 0 118 5", 3, api.ErrForm},
	{head + "end 0\n\n", 4, api.ErrForm},
	{head + "end 0\nx", 4, api.ErrForm},
	{head + marks1 + end + marks1, 5, api.ErrForm},
	{head + marks1 + end + end, 5, api.ErrForm},
	// scale
	{"scale\norder 0\nend 0\n", 1, api.ErrForm},
	{"scale 1 1 3 0 0\norder 0\nend 0\n", 1, api.ErrForm},
	{"scale 1 1 3 0 0 9 9\norder 0\nend 0\n", 1, api.ErrForm},
	{"scale 1 1 3 0 0 x\norder 0\nend 0\n", 1, api.ErrForm},
	{"scale  1 1 3 0 0 9\norder 0\nend 0\n", 1, api.ErrForm},
	{"scale 1 1 3 0 0 9 \norder 0\nend 0\n", 1, api.ErrForm},
	{"scale\t1 1 3 0 0 9\norder 0\nend 0\n", 1, api.ErrForm},
	{"scale 1 1 3 0 0 9\r\norder 0\nend 0\n", 1, api.ErrForm},
	// order: any number of numbers
	{"scale 1 1 3 0 0 9\norder\nend 0\n", 0, api.ErrForm},
	{"scale 1 1 3 0 0 9\norder 0 1\nend 0\n", 0, api.ErrForm},
	{"scale 1 1 3 0 0 9\norder " + strings.Repeat("1 ", 1000) + "1\nend 0\n", 0, api.ErrForm},
	{"scale 1 1 3 0 0 9\norder \nend 0\n", 2, api.ErrForm},
	{"scale 1 1 3 0 0 9\norder 0 \nend 0\n", 2, api.ErrForm},
	{"scale 1 1 3 0 0 9\norder  0\nend 0\n", 2, api.ErrForm},
	{"scale 1 1 3 0 0 9\norder x\nend 0\n", 2, api.ErrForm},
	{"scale 1 1 3 0 0 9\norder -1\nend 0\n", 2, api.ErrForm},
	// marks: three numbers or more
	{head + "marks\nend 1\n", 3, api.ErrForm},
	{head + "marks 0\nend 1\n", 3, api.ErrForm},
	{head + "marks 0 0\nend 1\n", 3, api.ErrForm},
	{head + "marks 0 0 113\nend 1\n", 0, api.ErrForm},
	{head + "marks 0 0 118 5 5\nend 1\n", 0, api.ErrForm},
	{head + "marks 0 0 118 5 \nend 1\n", 3, api.ErrForm},
	{head + "marks 0 0  118 5\nend 1\n", 3, api.ErrForm},
	{head + "marks 0 0 118 x\nend 1\n", 3, api.ErrForm},
	{head + "marks 0 0 118 -5\nend 1\n", 3, api.ErrForm},
	{head + marks1 + "marks 0 0 118 05\nend 2\n", 4, api.ErrForm},
	// absences and fines
	{head + "absent\nend 0\n", 3, api.ErrForm},
	{head + "absent 0\nend 0\n", 3, api.ErrForm},
	{head + "absent 0 1 2\nend 0\n", 3, api.ErrForm},
	{head + "absent 0 x\nend 0\n", 3, api.ErrForm},
	{head + "absent 0 1 \nend 0\n", 3, api.ErrForm},
	{head + "fine\nend 0\n", 3, api.ErrForm},
	{head + "fine 0\nend 0\n", 3, api.ErrForm},
	{head + "fine 0 3 3\nend 0\n", 3, api.ErrForm},
	{head + "fine 0 x\nend 0\n", 3, api.ErrForm},
	{head + "fine 0 -3\nend 0\n", 3, api.ErrForm},
	{head + "fine 0  3\nend 0\n", 3, api.ErrForm},
	// numbers
	{"scale 01 1 3 0 0 9\norder 0\nend 0\n", 1, api.ErrForm},
	{"scale +1 1 3 0 0 9\norder 0\nend 0\n", 1, api.ErrForm},
	{"scale 1 1 3 0 0 1234567\norder 0\nend 0\n", 1, api.ErrForm},
	{"scale 1 1 3 0 0 0000009\norder 0\nend 0\n", 1, api.ErrForm},
	{"scale 1 1 3 0 0 999999\norder 0\nend 0\n", 0, api.ErrRange},
	{"scale 1 1 3 0 0 9\norder 1234567\nend 0\n", 2, api.ErrForm},
	{"scale 1 1 3 0 0 9\norder 999999\nend 0\n", 0, api.ErrMissing},
	{"scale 1 1 3 0 0 9\norder 00\nend 0\n", 2, api.ErrForm},
	{head + "marks 0 0 1234567 5\nend 1\n", 3, api.ErrForm},
	{head + "marks 0 0 999999 5\nend 1\n", 0, api.ErrSealed},
	{head + "marks 0 0 118 999999\nend 1\n", 0, api.ErrRange},
	{head + "absent 0 1234567\nend 0\n", 3, api.ErrForm},
	{head + "absent 0 999999\nend 0\n", 0, api.ErrMissing},
	{head + "absent 0 01\nend 0\n", 3, api.ErrForm},
	{head + "fine 0 1234567\nend 0\n", 3, api.ErrForm},
	{head + "fine 0 999999\nend 0\n", 0, api.ErrRange},
	{head + "fine 00 3\nend 0\n", 3, api.ErrForm},
	// the number of envelopes is one of the things that are said of the row "end"
	{head + marks1 + "end\n", 4, api.ErrForm},
	{head + marks1 + "end 0\n", 4, api.ErrForm},
	{head + marks1 + "end 2\n", 4, api.ErrForm},
	{head + marks1 + absent1 + fine1 + "end 3\n", 6, api.ErrForm},
	{head + marks1 + "end 01\n", 4, api.ErrForm},
	{head + marks1 + "end 1 1\n", 4, api.ErrForm},
	{head + marks1 + "end x\n", 4, api.ErrForm},
	{head + marks1 + "end 1 \n", 4, api.ErrForm},
	{head + "end 1\n" + marks1, 3, api.ErrForm},
	{head + marks1 + "end 2\n" + marks1, 4, api.ErrForm},
	{"scale 9 1 3 0 0 9\norder 0\nend 1\n", 3, api.ErrForm},
	// then what CheckNight says
	{"scale 9 1 3 0 0 9\norder 0\nend 0\n", 0, api.ErrRange},
	{"scale 1 1 3 3 0 9\norder 0\nend 0\n", 0, api.ErrRange},
	{"scale 1 1 3 0 9 8\norder 0\nend 0\n", 0, api.ErrOrder},
	{"scale 1 1 3 0 0 9\norder 1\nend 0\n", 0, api.ErrMissing},
	{"scale 1 2 3 0 0 9\norder 1 1\nend 0\n", 0, api.ErrExists},
	{head + "marks 1 0 118 5\nend 1\n", 0, api.ErrMissing},
	{head + "marks 0 3 118 5\nend 1\n", 0, api.ErrMissing},
	{head + "marks 0 0 118 10\nend 1\n", 0, api.ErrRange},
	{head + "marks 0 0 119 5\nend 1\n", 0, api.ErrSealed},
	{head + marks1 + "marks 0 0 119 6\nend 2\n", 0, api.ErrClash},
	{head + strings.Repeat(marks1, 60) + "end 60\n", 0, api.OK},
	{head + strings.Repeat(marks1, 61) + "end 61\n", 0, api.ErrFull},
	{head + marks1 + "absent 0 0\nend 1\n", 0, api.ErrClash},
	{head + "absent 0 0\nabsent 0 2\nabsent 0 1\nend 0\n", 0, api.ErrShort},
	{head + strings.Repeat(absent1, 60) + "end 0\n", 0, api.OK},
	{head + strings.Repeat(absent1, 61) + "end 0\n", 0, api.ErrFull},
	{head + "fine 1 3\nend 0\n", 0, api.ErrMissing},
	{head + "fine 0 1001\nend 0\n", 0, api.ErrRange},
	{head + strings.Repeat(fine1, 10) + "end 0\n", 0, api.OK},
	{head + strings.Repeat(fine1, 11) + "end 0\n", 0, api.ErrFull},
	// how long minutes may be
	{strings.Repeat("x", 3000), 1, api.ErrForm},
	{strings.Repeat("x", 3001), 0, api.ErrLong},
	{minutes + strings.Repeat("\n", 3000-len(minutes)), 11, api.ErrForm},
	{minutes + strings.Repeat("\n", 3001-len(minutes)), 0, api.ErrLong},
}

// P5.5: Write.
func TestWrite(t *testing.T) {
	if text, e := marks.Write(samba(), told()); text != minutes || e != api.OK {
		t.Error(text, e)
	}
	if text, e := marks.Write(samba(), api.Night{}); text != "scale 3 2 3 1 50 100\norder 1 0\nend 0\n" || e != api.OK {
		t.Error(text, e)
	}
	twice := retold(func(n *api.Night) {
		n.Opened = []api.Envelope{n.Opened[4], n.Opened[0], n.Opened[4]}
		n.Absent = append(n.Absent, absence(0, 1), n.Absent[0])
		n.Fines = append(n.Fines, api.Fine{School: 0, Points: 1000}, n.Fines[0])
	})
	want := "scale 3 2 3 1 50 100\norder 1 0\nmarks 1 1 736 100 70 90\nmarks 0 0 633 100 90 80\nmarks 1 1 736 100 70 90\nabsent 1 2\nabsent 0 1\nabsent 1 2\nfine 2 5\nfine 0 1000\nfine 2 5\nend 3\n"
	if text, e := marks.Write(samba(), twice); text != want || e != api.OK {
		t.Error(text, e)
	}
	s, n := greatest()
	if text, e := marks.Write(s, n); !strings.HasPrefix(text, "scale 8 6 5 0 0 100\norder 5 4 3 2 1 0\nmarks 0 0 ") || !strings.HasSuffix(text, "\nfine 0 1000\nend 30\n") || e != api.OK {
		t.Error(text, e)
	}
}

// P5.5: how long minutes may be, byte by byte.
func TestLength(t *testing.T) {
	s, n := greatest()
	n.Opened, n.Fines = slices.Repeat([]api.Envelope{envelope(0, 0, 100, 100, 100, 100, 100, 100, 100, 100)}, 60), nil
	lengths := map[int]bool{}
	for absent := range 61 {
		n.Absent = slices.Repeat([]api.Absence{absence(1, 1)}, absent)
		for digits := range 31 {
			n.Fines = nil
			for _, points := range []int{1, 10, 100, 1000}[:digits%4] {
				n.Fines = append(n.Fines, api.Fine{Points: points})
			}
			n.Fines = append(n.Fines, slices.Repeat([]api.Fine{{Points: 7}}, digits/5)...)
			length := len(wholeMinutes(s, n))
			text, e := marks.Write(s, n)
			switch {
			case length <= 3000 && (text != wholeMinutes(s, n) || e != api.OK):
				t.Error(length, len(text), e)
			case length > 3000 && (text != "" || e != api.ErrLong):
				t.Error(length, len(text), e)
			}
			lengths[length] = true
		}
	}
	if !lengths[2999] || !lengths[3000] || !lengths[3001] {
		t.Error("no minutes of just as many bytes as may be")
	}
}

// wholeMinutes are minutes, however long they are.
func wholeMinutes(s api.Scale, n api.Night) string {
	short := n
	short.Opened, short.Absent, short.Fines = nil, nil, nil
	text, _ := marks.Write(s, short)
	text = strings.TrimSuffix(text, "end 0\n")
	for _, x := range n.Opened {
		short.Opened = []api.Envelope{x}
		text += part(s, short, 2, 3)
	}
	short.Opened = nil
	for _, x := range n.Absent {
		short.Absent = []api.Absence{x}
		text += part(s, short, 2, 3)
	}
	short.Absent = nil
	for _, x := range n.Fines {
		short.Fines = []api.Fine{x}
		text += part(s, short, 2, 3)
	}
	short.Fines = nil
	if len(n.Opened) != 60 {
		panic("another row \"end\"")
	}
	return text + "end 60\n"
}

// part is some rows of short minutes.
func part(s api.Scale, n api.Night, from, to int) string {
	text, _ := marks.Write(s, n)
	return strings.Join(strings.SplitAfter(text, "\n")[from:to], "")
}

// P5.5: Read.
func TestRead(t *testing.T) {
	s, n, row, e := marks.Read(minutes)
	if !reflect.DeepEqual(s, samba()) || !reflect.DeepEqual(n, told()) || row != 0 || e != api.OK {
		t.Error(s, n, row, e)
	}
	for _, x := range texts {
		s, n, row, e := marks.Read(x.text)
		if row != x.row || e != x.want {
			t.Errorf("%q: %d %d", x.text, row, e)
		}
		if e != api.OK && (!reflect.DeepEqual(s, api.Scale{}) || !reflect.DeepEqual(n, api.Night{})) {
			t.Errorf("%q: %v %v", x.text, s, n)
		}
	}
}

func sameScale(a, b api.Scale) bool {
	same := slices.Equal(a.Order, b.Order)
	a.Order, b.Order = nil, nil
	return same && reflect.DeepEqual(a, b)
}

func sameNight(a, b api.Night) bool {
	return slices.EqualFunc(a.Opened, b.Opened, sameEnvelope) && slices.Equal(a.Absent, b.Absent) && slices.Equal(a.Fines, b.Fines)
}

func sameEnvelope(a, b api.Envelope) bool {
	return a.Matter == b.Matter && a.Judge == b.Judge && a.Seal == b.Seal && slices.Equal(a.Marks, b.Marks)
}

// P5.14: minutes are read from their night, and what is read is written as it was.
func TestMinutes(t *testing.T) {
	s, n := greatest()
	list := slices.Concat(trials(300), decided(300), large(300), []trial{{s, n}, {samba(), told()}, {samba(), api.Night{}}})
	for _, x := range list {
		text, e := marks.Write(x.s, x.n)
		if e != api.OK || len(text) > api.MaxMinutes {
			t.Error(x, len(text), e)
		}
		s, n, row, e := marks.Read(text)
		if !sameScale(s, x.s) || !sameNight(n, x.n) || row != 0 || e != api.OK {
			t.Error(x, s, n, row, e)
		}
		if again, e := marks.Write(s, n); again != text || e != api.OK {
			t.Error(x, again, e)
		}
	}
}

// P5.5 and P5.14: with any byte another one, minutes that are read are written as they were; and those that are not have a row if it is not as said.
func TestBytes(t *testing.T) {
	text := head + marks1 + "marks 0 2 139 2\n" + absent1 + fine1 + "end 2\n"
	read, forms := 0, 0
	for i := range len(text) {
		for _, b := range []byte("\n 0129xe\x00\xff") {
			for _, changed := range []string{text[:i] + string([]byte{b}) + text[i+1:], text[:i] + string([]byte{b}) + text[i:], text[:i] + text[i+1:], text[:i]} {
				s, n, row, e := marks.Read(changed)
				switch {
				case e == api.OK:
					read++
					if again, e := marks.Write(s, n); again != changed || row != 0 || e != api.OK {
						t.Errorf("%q %q %d %d", changed, again, row, e)
					}
				case row > 0:
					forms++
					if e != api.ErrForm || row > strings.Count(changed, "\n")+1 {
						t.Errorf("%q %d %d", changed, row, e)
					}
				}
			}
		}
	}
	if read < 20 || forms < 500 {
		t.Error("few minutes of a kind:", read, forms)
	}
}
