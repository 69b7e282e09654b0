package song_test

import (
	"reflect"
	"slices"
	"strings"
	"testing"

	"bateria/api"
	"bateria/song"
)

const urn = `contest 3 2 3 10
round 2 1 2
round 1 1 3
ballot 1 0 1 0 0 7
ballot 2 0 1 0 1 9
ballot 3 0 1 1 2 8
ballot 4 0 2 0 0 0
ballot 5 0 2 0 1 0
ballot 6 0 2 1 0 0
ballot 7 1 2 0 2 0
ballot 8 1 2 0 1 0
ballot 9 1 1 1 1 4
ballot 10 1 2 1 0 0
end 10
`

const head, ballot1, end = "contest 2 1 3 5\nround 1 0 1\n", "ballot 4 0 1 0 1 5\n", "end 1\n"

var urns = []struct {
	text string
	row  int
	want api.Errno
}{
	{urn, 0, api.OK},
	{head + ballot1 + end, 0, api.OK},
	{head + "end 0\n", 0, api.OK},
	{head + ballot1 + "ballot 1000000000 0 2 2 0 0\nend 2\n", 0, api.OK},
	{"contest 2 1 3 5\nround 2 7 8\nround 1 0 1\n" + ballot1 + end, 0, api.OK},
	// which row is not as said
	{"", 1, api.ErrForm},
	{"\n", 1, api.ErrForm},
	{"x", 1, api.ErrForm},
	{"contest 2 1 3 5", 1, api.ErrForm},
	{" " + head + end, 1, api.ErrForm},
	{"Contest 2 1 3 5\nround 1 0 1\nend 0\n", 1, api.ErrForm},
	{"contests 2 1 3 5\nround 1 0 1\nend 0\n", 1, api.ErrForm},
	{"round 1 0 1\n" + head + "end 0\n", 1, api.ErrForm},
	{ballot1 + end, 1, api.ErrForm},
	{"end 0\n", 1, api.ErrForm},
	{"contest 2 1 3 5\n", 2, api.ErrForm},
	{head, 3, api.ErrForm},
	{head + ballot1, 4, api.ErrForm},
	{head + "contest 2 1 3 5\nend 0\n", 3, api.ErrForm},
	{"contest 2 1 3 5\n" + head + "end 0\n", 2, api.ErrForm},
	{head + "\nend 0\n", 3, api.ErrForm},
	{"\n" + head + "end 0\n", 1, api.ErrForm},
	{head + "rounds 1 0 1\nend 0\n", 3, api.ErrForm},
	{head + "ballots 4 0 1 0 1 5\nend 1\n", 3, api.ErrForm},
	{head + "Ballot 4 0 1 0 1 5\nend 1\n", 3, api.ErrForm},
	{head + ballot1 + "round 1 0 1\nend 1\n", 4, api.ErrForm},
	{head + ballot1 + "contest 2 1 3 5\nend 1\n", 4, api.ErrForm},
	{"contest 2 1 3 5\n" + ballot1 + "round 1 0 1\nend 1\n", 3, api.ErrForm},
	{head + ballot1 + "end 1", 4, api.ErrForm},
	{head + "ballot 4 0 1 0 1 5", 3, api.ErrForm},
	{"contest 2 1 3 5\nround 1 0 1", 2, api.ErrForm},
	{head + ballot1 + end + "\n", 5, api.ErrForm},
	{head + ballot1 + end + "x", 5, api.ErrForm},
	{head + ballot1 + end + ballot1, 5, api.ErrForm},
	{head + ballot1 + end + end, 5, api.ErrForm},
	// contest
	{"contest\nround 1 0 1\nend 0\n", 1, api.ErrForm},
	{"contest 2 1 3\nround 1 0 1\nend 0\n", 1, api.ErrForm},
	{"contest 2 1 3 5 6\nround 1 0 1\nend 0\n", 1, api.ErrForm},
	{"contest 2 1 3 x\nround 1 0 1\nend 0\n", 1, api.ErrForm},
	{"contest  2 1 3 5\nround 1 0 1\nend 0\n", 1, api.ErrForm},
	{"contest 2 1 3 5 \nround 1 0 1\nend 0\n", 1, api.ErrForm},
	{"contest\t2 1 3 5\nround 1 0 1\nend 0\n", 1, api.ErrForm},
	{"contest 2 1 3 5\r\nround 1 0 1\nend 0\n", 1, api.ErrForm},
	// rounds
	{"contest 2 1 3 5\nround\nend 0\n", 2, api.ErrForm},
	{"contest 2 1 3 5\nround 1 0\nend 0\n", 2, api.ErrForm},
	{"contest 2 1 3 5\nround 1 0 1 0\nend 0\n", 2, api.ErrForm},
	{head + "round 1 0 x\nend 0\n", 3, api.ErrForm},
	{head + "round 1  0 1\nend 0\n", 3, api.ErrForm},
	{head + "round 1 0 1 \nend 0\n", 3, api.ErrForm},
	// ballots
	{head + "ballot\n" + end, 3, api.ErrForm},
	{head + "ballot 4 0 1 0 1\n" + end, 3, api.ErrForm},
	{head + "ballot 4 0 1 0 1 5 6\n" + end, 3, api.ErrForm},
	{head + "ballot 4 0 1 0 1 x\n" + end, 3, api.ErrForm},
	{head + "ballot 4 0  1 0 1 5\n" + end, 3, api.ErrForm},
	{head + "ballot 4 0 1 0 1 5 \n" + end, 3, api.ErrForm},
	{head + ballot1 + "ballot 5 0 1 0 1 -5\nend 2\n", 4, api.ErrForm},
	// numbers
	{"contest 02 1 3 5\nround 1 0 1\nend 0\n", 1, api.ErrForm},
	{"contest +2 1 3 5\nround 1 0 1\nend 0\n", 1, api.ErrForm},
	{"contest -2 1 3 5\nround 1 0 1\nend 0\n", 1, api.ErrForm},
	{"contest 2 1 3 5:\nround 1 0 1\nend 0\n", 1, api.ErrForm},
	{"contest 2 1 3 12345678901\nround 1 0 1\nend 0\n", 1, api.ErrForm},
	{"contest 2 1 3 00000000005\nround 1 0 1\nend 0\n", 1, api.ErrForm},
	{"contest 2 1 3 9999999999\nround 1 0 1\nend 0\n", 0, api.ErrRange},
	{"contest 2 1 3 5\nround 1 0 01\nend 0\n", 2, api.ErrForm},
	{"contest 2 1 3 5\nround 1 0 12345678901\nend 0\n", 2, api.ErrForm},
	{"contest 2 1 3 5\nround 1 0 9999999999\nend 0\n", 0, api.ErrRange},
	{head + "ballot 12345678901 0 1 0 1 5\n" + end, 3, api.ErrForm},
	{head + "ballot 9999999999 0 1 0 1 5\n" + end, 0, api.ErrRange},
	{head + "ballot 04 0 1 0 1 5\n" + end, 3, api.ErrForm},
	{head + "ballot 4 00 1 0 1 5\n" + end, 3, api.ErrForm},
	// the number of ballots is one of the things that are said of the row "end"
	{head + ballot1 + "end 2\n", 4, api.ErrForm},
	{head + ballot1 + "end 0\n", 4, api.ErrForm},
	{head + ballot1 + "end 01\n", 4, api.ErrForm},
	{head + ballot1 + "end\n", 4, api.ErrForm},
	{head + ballot1 + "end 1 1\n", 4, api.ErrForm},
	{head + ballot1 + "end x\n", 4, api.ErrForm},
	{head + ballot1 + "end 12345678901\n", 4, api.ErrForm},
	{head + ballot1 + "end 2\n" + ballot1, 4, api.ErrForm},
	{head + "end 1\n" + ballot1, 3, api.ErrForm},
	{"contest 9 1 3 5\nround 1 0 1\nend 1\n", 3, api.ErrForm},
	// then what CheckBallots says
	{"contest 2 1 3 5\nend 0\n", 0, api.ErrShort},
	{"contest 2 1 3 5\n" + ballot1 + end, 0, api.ErrShort},
	{"contest 2 1 3 5\n" + strings.Repeat("round 1 0 1\n", 4) + "end 0\n", 0, api.OK},
	{"contest 2 1 3 5\n" + strings.Repeat("round 1 0 1\n", 5) + "end 0\n", 0, api.ErrFull},
	{"contest 0 1 3 5\nround 1 0 1\nend 0\n", 0, api.ErrRange},
	{"contest 2 9 3 5\nround 1 0 1\nend 0\n", 0, api.ErrRange},
	{"contest 2 1 1001 5\nround 1 0 1\nend 0\n", 0, api.ErrRange},
	{"contest 2 1 3 101\nround 1 0 1\nend 0\n", 0, api.ErrRange},
	{"contest 2 1 3 5\nround 2 0 1\nend 0\n", 0, api.ErrForm},
	{"contest 2 1 3 5\nround 2 0 1\n" + ballot1 + ballot1 + "end 2\n", 0, api.ErrForm},
	{head + "ballot 0 0 1 0 1 5\n" + end, 0, api.ErrRange},
	{head + ballot1 + ballot1 + "end 2\n", 0, api.ErrExists},
	{head + "ballot 4 1 1 0 1 5\n" + end, 0, api.ErrRange},
	{head + "ballot 4 0 3 0 1 5\n" + end, 0, api.ErrKind},
	{head + "ballot 4 0 1 1 1 5\n" + end, 0, api.ErrMissing},
	{head + "ballot 4 0 1 0 2 5\n" + end, 0, api.ErrMissing},
	{head + "ballot 4 0 1 0 1 6\n" + end, 0, api.ErrRange},
	{head + "ballot 4 0 2 0 1 1\n" + end, 0, api.ErrForm},
	{head + strings.Repeat(ballot1, 301) + "end 301\n", 0, api.ErrFull},
	{head + strings.Repeat(ballot1, 300) + "end 300\n", 0, api.ErrExists},
	// how long an urn may be
	{strings.Repeat("x", 12000), 1, api.ErrForm},
	{strings.Repeat("x", 12001), 0, api.ErrLong},
	{urn + strings.Repeat("\n", 12000-len(urn)), 15, api.ErrForm},
	{urn + strings.Repeat("\n", 12001-len(urn)), 0, api.ErrLong},
}

// P4.4: Write.
func TestWrite(t *testing.T) {
	if text, e := song.Write(samba(), opened()); text != urn || e != api.OK {
		t.Error(text, e)
	}
	if text, e := song.Write(pair(), both()[:1]); text != "contest 2 0 3 0\nround 1 0 1\nballot 1 0 2 0 0 0\nend 1\n" || e != api.OK {
		t.Error(text, e)
	}
	if text, e := song.Write(pair(), nil); text != "contest 2 0 3 0\nround 1 0 1\nend 0\n" || e != api.OK {
		t.Error(text, e)
	}
	c, l := greatest()
	text, e := song.Write(c, l)
	if !strings.HasPrefix(text, "contest 8 8 1000 100\nround 8 1000 1000\nround 8 1000 1000\nround 8 1000 1000\nround 1 1000 1000\nballot 1000000000 3 1 0 0 100\nballot 999999999 3 1 0 1 100\n") || e != api.OK {
		t.Error(text, e)
	}
	if !strings.HasSuffix(text, "\nballot 999999702 3 2 701 7 0\nballot 999999701 3 2 700 7 0\nend 300\n") {
		t.Error(text)
	}
}

// P4.4: Read.
func TestRead(t *testing.T) {
	c, l, row, e := song.Read(urn)
	if !reflect.DeepEqual(c, samba()) || !reflect.DeepEqual(l, opened()) || row != 0 || e != api.OK {
		t.Error(c, l, row, e)
	}
	for _, x := range urns {
		c, l, row, e := song.Read(x.text)
		if row != x.row || e != x.want {
			t.Errorf("%q: %d %d", x.text, row, e)
		}
		if e != api.OK && (!reflect.DeepEqual(c, api.Contest{}) || len(l) > 0) {
			t.Errorf("%q: %v %v", x.text, c, l)
		}
	}
}

func sameContest(a, b api.Contest) bool {
	return a.Songs == b.Songs && a.Juries == b.Juries && a.Members == b.Members && a.Most == b.Most && slices.Equal(a.Rounds, b.Rounds)
}

// P4.13: an urn is read from its contest, and what is read is written as it was.
func TestUrns(t *testing.T) {
	c, l := greatest()
	list := append(trials(500, 14), trial{c, l}, trial{samba(), opened()}, trial{pair(), nil})
	for _, x := range list {
		text, e := song.Write(x.c, x.l)
		if e != api.OK || len(text) > api.MaxUrn {
			t.Error(x, len(text), e)
		}
		c, l, row, e := song.Read(text)
		if !sameContest(c, x.c) || !slices.Equal(l, x.l) || row != 0 || e != api.OK {
			t.Error(x, c, l, row, e)
		}
	}
}

// P4.4 and P4.13: with any byte another one, an urn that is read is written as it was; and one that is not has a row if it is not as said.
func TestBytes(t *testing.T) {
	text := head + "ballot 41 0 1 0 1 5\nballot 30 0 2 2 0 0\nend 2\n"
	read, forms := 0, 0
	for i := range len(text) {
		for _, b := range []byte("\n 0129xc\x00\xff") {
			for _, changed := range []string{text[:i] + string([]byte{b}) + text[i+1:], text[:i] + string([]byte{b}) + text[i:], text[:i] + text[i+1:], text[:i]} {
				c, l, row, e := song.Read(changed)
				switch {
				case e == api.OK:
					read++
					if again, e := song.Write(c, l); again != changed || row != 0 || e != api.OK {
						t.Errorf("%q %q %d %d", changed, again, row, e)
					}
				case row > 0:
					forms++
					if e != api.ErrForm || row > strings.Count(changed, "\n")+1 {
						t.Errorf("%q %d %d", changed, row, e)
					}
				}
			}
		}
	}
	if read < 20 || forms < 500 {
		t.Error("few urns of a kind:", read, forms)
	}
}
