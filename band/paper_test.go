package band_test

import (
	"slices"
	"strings"
	"testing"

	"bateria/api"
	"bateria/band"
)

// paper has the bands A and B of the chapter's examples.
const paper = "band 0 100 110 20 50 0 1\nband 2 120 120 30 40 1\nend 2\n"

// row1 is a band without a path.
const row1, end1 = "band 0 1 2 3 4\n", "end 1\n"

var texts = []struct {
	text string
	row  int
	want api.Errno
}{
	{paper, 0, api.OK},
	{"end 0\n", 0, api.OK},
	{row1 + end1, 0, api.OK},
	{row1 + "band 1 2 3 4 5 1 2\n" + row1 + "end 3\n", 0, api.OK},
	{"band 0 0 0 1 0\n" + end1, 0, api.OK},
	// which row is not as said
	{"", 1, api.ErrForm},
	{"\n", 1, api.ErrForm},
	{"x", 1, api.ErrForm},
	{" ", 1, api.ErrForm},
	{"band", 1, api.ErrForm},
	{"end 0", 1, api.ErrForm},
	{" end 0\n", 1, api.ErrForm},
	{"\nend 0\n", 1, api.ErrForm},
	{"End 0\n", 1, api.ErrForm},
	{"ends 0\n", 1, api.ErrForm},
	{"Band 0 1 2 3 4\n" + end1, 1, api.ErrForm},
	{"bands 0 1 2 3 4\n" + end1, 1, api.ErrForm},
	{"0 1 2 3 4\n" + end1, 1, api.ErrForm},
	{row1, 2, api.ErrForm},
	{row1 + "end 1", 2, api.ErrForm},
	{row1 + "\n" + end1, 2, api.ErrForm},
	{row1 + " " + end1, 2, api.ErrForm},
	{row1 + "x\n" + "band\n", 2, api.ErrForm},
	{row1 + row1, 3, api.ErrForm},
	{row1 + row1[:len(row1)-1], 2, api.ErrForm},
	{row1 + row1 + "band 0 1 2 3 x\nend 3\n", 3, api.ErrForm},
	{row1 + "band 0 1 2 3\nx\nend 2\n", 2, api.ErrForm},
	// behind the row "end"
	{row1 + end1 + "\n", 3, api.ErrForm},
	{row1 + end1 + "x", 3, api.ErrForm},
	{row1 + end1 + end1, 3, api.ErrForm},
	{row1 + end1 + row1, 3, api.ErrForm},
	{"end 0\n" + row1 + end1, 2, api.ErrForm},
	// the row "band"
	{"band\n" + end1, 1, api.ErrForm},
	{"band \n" + end1, 1, api.ErrForm},
	{"band 0 1 2 3\n" + end1, 1, api.ErrForm},
	{"band 0 1 2 3 \n" + end1, 1, api.ErrForm},
	{"band 0 1 2 3 4 \n" + end1, 1, api.ErrForm},
	{"band  0 1 2 3 4\n" + end1, 1, api.ErrForm},
	{"band 0 1 2 3  4\n" + end1, 1, api.ErrForm},
	{"band 0 1 2 3 4 x\n" + end1, 1, api.ErrForm},
	{"band x 1 2 3 4\n" + end1, 1, api.ErrForm},
	{"band\t0 1 2 3 4\n" + end1, 1, api.ErrForm},
	{"band 0 1 2 3 4\r\n" + end1, 1, api.ErrForm},
	// numbers
	{"band 00 1 2 3 4\n" + end1, 1, api.ErrForm},
	{"band 0 01 2 3 4\n" + end1, 1, api.ErrForm},
	{"band 0 1 2 3 04\n" + end1, 1, api.ErrForm},
	{"band 0 1 2 3 4 00\n" + end1, 1, api.ErrForm},
	{"band 0 1 2 3 -4\n" + end1, 1, api.ErrForm},
	{"band -0 1 2 3 4\n" + end1, 1, api.ErrForm},
	{"band 0 1 2 +3 4\n" + end1, 1, api.ErrForm},
	{"band 0 1 2 3 4.0\n" + end1, 1, api.ErrForm},
	{"band 0 1 2 3 12345678\n" + end1, 1, api.ErrForm},
	{"band 0 1 2 3 00000004\n" + end1, 1, api.ErrForm},
	{"band 0 1 2 3 9999999\n" + end1, 0, api.ErrRange},
	{"band 0 1 2 3 1000000\n" + end1, 0, api.OK},
	{"band 9999999 1 2 3 4\n" + end1, 0, api.ErrMissing},
	{"band 12345678 1 2 3 4\n" + end1, 1, api.ErrForm},
	{"band 0 1 2 3 4 9999999\n" + end1, 0, api.ErrMissing},
	{"band 0 1 2 3 4 12345678\n" + end1, 1, api.ErrForm},
	// the number of bands is one of the things that are said of the row "end"
	{"end\n", 1, api.ErrForm},
	{"end 1\n", 1, api.ErrForm},
	{"end 00\n", 1, api.ErrForm},
	{"end x\n", 1, api.ErrForm},
	{"end 0 0\n", 1, api.ErrForm},
	{"end 0 \n", 1, api.ErrForm},
	{"end  0\n", 1, api.ErrForm},
	{"end -0\n", 1, api.ErrForm},
	{row1 + "end 0\n", 2, api.ErrForm},
	{row1 + "end 2\n", 2, api.ErrForm},
	{row1 + "end 01\n", 2, api.ErrForm},
	{row1 + "end 2\n" + row1, 2, api.ErrForm},
	{"band 3 1 2 3 4\nend 2\n", 2, api.ErrForm},
	// then what CheckBands says
	{"band 3 1 2 3 4\n" + end1, 0, api.ErrMissing},
	{"band 0 1 2 3 4 1\n" + end1, 0, api.ErrForm},
	{"band 0 1 2 3 4 3\n" + end1, 0, api.ErrMissing},
	{"band 0 1 2 3 4" + strings.Repeat(" 0", 12) + "\n" + end1, 0, api.OK},
	{"band 0 1 2 3 4" + strings.Repeat(" 0", 13) + "\n" + end1, 0, api.ErrFull},
	{"band 0 2 1 3 4\n" + end1, 0, api.ErrOrder},
	{"band 0 1 32 3 4\n" + end1, 0, api.ErrRange},
	{"band 0 1 2 0 4\n" + end1, 0, api.ErrRange},
	{"band 0 719 719 2 4\n" + end1, 0, api.ErrLate},
	{row1 + "band 0 2 1 3 4\nband 3 1 2 3 4\nend 3\n", 0, api.ErrOrder},
	{strings.Repeat(row1, 10) + "end 10\n", 0, api.OK},
	{strings.Repeat(row1, 11) + "end 11\n", 0, api.ErrFull},
	{strings.Repeat(row1, 11) + "end 10\n", 12, api.ErrForm},
	// how long a paper may be
	{strings.Repeat("x", 2000), 1, api.ErrForm},
	{strings.Repeat("x", 2001), 0, api.ErrLong},
	{paper + strings.Repeat("\n", 2000-len(paper)), 4, api.ErrForm},
	{paper + strings.Repeat("\n", 2001-len(paper)), 0, api.ErrLong},
	{strings.Repeat(row1, 132) + "band 0 1 2 3\nend 0\n", 133, api.ErrForm},
	{"band 0 1 2 3 4" + strings.Repeat(" 0", 989) + "\nend 1\n", 0, api.ErrFull},
}

// P7.5: Write.
func TestWrite(t *testing.T) {
	for _, x := range []struct {
		c     api.City
		bands []api.Band
		want  string
		e     api.Errno
	}{
		{quarter(), four()[:2], paper, api.OK},
		{quarter(), nil, "end 0\n", api.OK},
		{quarter(), []api.Band{still(2, 0, 30, 120, 1000000)}, "band 2 0 30 120 1000000\nend 1\n", api.OK},
		{greatest(), loudest(), strings.Repeat("band 10 100 109 47 1000000"+strings.Repeat(" 11", 12)+"\n", 10) + "end 10\n", api.OK},
		{quarter(), append(four(), from(four()[0], 5, 4)), "", api.ErrOrder},
		{quarter(), make([]api.Band, 11), "", api.ErrFull},
	} {
		if text, e := band.Write(x.c, x.bands); text != x.want || e != x.e {
			t.Error(text, e)
		}
	}
}

// P7.5: Read.
func TestRead(t *testing.T) {
	if l, row, e := band.Read(quarter(), paper); !slices.EqualFunc(l, four()[:2], sameBand) || row != 0 || e != api.OK {
		t.Error(l, row, e)
	}
	for _, x := range texts {
		l, row, e := band.Read(quarter(), x.text)
		if row != x.row || e != x.want || e != api.OK && len(l) > 0 {
			t.Errorf("%q: %v %d %d", x.text, l, row, e)
		}
		if again, e2 := band.Write(quarter(), l); e == api.OK && (again != x.text || e2 != api.OK) {
			t.Errorf("%q: %q %d", x.text, again, e2)
		}
	}
}

// P7.14: a paper is read from its bands, and what is read is written as it was.
func TestPapers(t *testing.T) {
	for _, x := range append(trials(14, 500, 10), trial{quarter(), four()}, trial{greatest(), loudest()}) {
		text, e := band.Write(x.city, x.bands)
		if e != api.OK || len(text) > api.MaxPermit {
			t.Error(x, len(text), e)
		}
		l, row, e := band.Read(x.city, text)
		if !slices.EqualFunc(l, x.bands, sameBand) || row != 0 || e != api.OK {
			t.Error(x, l, row, e)
		}
		if again, e := band.Write(x.city, l); again != text || e != api.OK {
			t.Error(x, again, e)
		}
	}
}

// P7.5 and P7.14: with any byte another one, papers that are read are written as they were; and those that are not have a row if it is not as said.
func TestBytes(t *testing.T) {
	text := paper[:len(paper)-len("end 2\n")] + row1 + "band 1 10 20 12 20 1 2 0\nend 4\n"
	read, forms := 0, 0
	for i := range len(text) {
		for _, b := range []byte("\n 0129xe\x00\xff") {
			for _, other := range []string{text[:i] + string([]byte{b}) + text[i+1:], text[:i] + string([]byte{b}) + text[i:], text[:i] + text[i+1:], text[:i]} {
				l, row, e := band.Read(quarter(), other)
				switch {
				case e == api.OK:
					read++
					if again, e := band.Write(quarter(), l); again != other || row != 0 || e != api.OK {
						t.Errorf("%q %q %d %d", other, again, row, e)
					}
				case row > 0:
					forms++
					if e != api.ErrForm || row > strings.Count(other, "\n")+1 {
						t.Errorf("%q %d %d", other, row, e)
					}
				}
			}
		}
	}
	if read < 100 || forms < 500 {
		t.Error("few papers of a kind:", read, forms)
	}
}
