package coin_test

import (
	"slices"
	"strings"
	"testing"

	"bateria/api"
	"bateria/coin"
)

// book has the ledger L of the chapter's examples.
const book = "fund 0 30 1000 0 1\nfund 5 20 500 1\nfund 0 40 300 0 1 2\nbill 10 1 600\nbill 15 0 900\nbill 35 2 200\nend 3\n"

// These are rows of a book with one fund and one bill.
const fund1, bill1, end1 = "fund 0 5 9 0\n", "bill 1 0 4\n", "end 1\n"

var texts = []struct {
	text string
	row  int
	want api.Errno
}{
	{book, 0, api.OK},
	{fund1 + bill1 + end1, 0, api.OK},
	{"end 0\n", 0, api.OK},
	{fund1 + "end 0\n", 0, api.OK},
	{bill1 + end1, 0, api.OK},
	{fund1 + fund1 + bill1 + bill1 + "end 2\n", 0, api.OK},
	{"fund 0 5 9\nend 0\n", 0, api.OK},
	{"fund 0 5 9 0 1 2 3 4 5 6 7\nend 0\n", 0, api.OK},
	// rows
	{"", 1, api.ErrForm},
	{"\n", 1, api.ErrForm},
	{"x", 1, api.ErrForm},
	{" ", 1, api.ErrForm},
	{"\n" + fund1 + bill1 + end1, 1, api.ErrForm},
	{fund1 + "\n" + bill1 + end1, 2, api.ErrForm},
	{fund1 + "grant 0 5 9 0\n" + bill1 + end1, 2, api.ErrForm},
	{"0 5 9 0\n" + bill1 + end1, 1, api.ErrForm},
	// rows "fund"
	{"fund\n" + bill1 + end1, 1, api.ErrForm},
	{"fund 0\n" + bill1 + end1, 1, api.ErrForm},
	{"fund 0 5\n" + bill1 + end1, 1, api.ErrForm},
	{"fund 0 5 \n" + bill1 + end1, 1, api.ErrForm},
	{"fund 0 5 9 \n" + bill1 + end1, 1, api.ErrForm},
	{"fund 0 5 9 0 \n" + bill1 + end1, 1, api.ErrForm},
	{"fund 0 5 9 0  1\n" + bill1 + end1, 1, api.ErrForm},
	{"fund  0 5 9 0\n" + bill1 + end1, 1, api.ErrForm},
	{" fund 0 5 9 0\n" + bill1 + end1, 1, api.ErrForm},
	{"Fund 0 5 9 0\n" + bill1 + end1, 1, api.ErrForm},
	{"funds 0 5 9 0\n" + bill1 + end1, 1, api.ErrForm},
	{"fund\t0 5 9 0\n" + bill1 + end1, 1, api.ErrForm},
	{"fund 0 5 9 0\r\n" + bill1 + end1, 1, api.ErrForm},
	{"fund x 5 9 0\n" + bill1 + end1, 1, api.ErrForm},
	{"fund 0 5 9 x\n" + bill1 + end1, 1, api.ErrForm},
	{fund1 + "fund 0 5\n" + bill1 + end1, 2, api.ErrForm},
	{fund1 + bill1 + fund1 + end1, 3, api.ErrForm},
	{bill1 + fund1 + end1, 2, api.ErrForm},
	{fund1 + bill1 + fund1 + bill1 + "end 2\n", 3, api.ErrForm},
	// rows "bill"
	{fund1 + "bill\n" + end1, 2, api.ErrForm},
	{fund1 + "bill 1 0\n" + end1, 2, api.ErrForm},
	{fund1 + "bill 1 0 \n" + end1, 2, api.ErrForm},
	{fund1 + "bill 1 0 4 \n" + end1, 2, api.ErrForm},
	{fund1 + "bill 1 0 4 5\n" + end1, 2, api.ErrForm},
	{fund1 + "bill 1  0 4\n" + end1, 2, api.ErrForm},
	{fund1 + "Bill 1 0 4\n" + end1, 2, api.ErrForm},
	{fund1 + "bills 1 0 4\n" + end1, 2, api.ErrForm},
	{fund1 + "bill 1 x 4\n" + end1, 2, api.ErrForm},
	{fund1 + bill1 + "bill 1 0\n" + "end 2\n", 3, api.ErrForm},
	{fund1 + bill1 + "\n" + bill1 + "end 2\n", 3, api.ErrForm},
	// the row "end"
	{fund1, 2, api.ErrForm},
	{fund1 + bill1, 3, api.ErrForm},
	{fund1 + bill1[:len(bill1)-1], 2, api.ErrForm},
	{fund1[:len(fund1)-1], 1, api.ErrForm},
	{fund1 + bill1 + "end 1", 3, api.ErrForm},
	{fund1 + bill1 + "end\n", 3, api.ErrForm},
	{fund1 + bill1 + "end \n", 3, api.ErrForm},
	{fund1 + bill1 + "end 1 \n", 3, api.ErrForm},
	{fund1 + bill1 + "end  1\n", 3, api.ErrForm},
	{fund1 + bill1 + "end 1 1\n", 3, api.ErrForm},
	{fund1 + bill1 + "end 0\n", 3, api.ErrForm},
	{fund1 + bill1 + "end 2\n", 3, api.ErrForm},
	{fund1 + fund1 + bill1 + "end 2\n", 4, api.ErrForm},
	{fund1 + "end 1\n", 2, api.ErrForm},
	{fund1 + bill1 + "end 01\n", 3, api.ErrForm},
	{fund1 + bill1 + " end 1\n", 3, api.ErrForm},
	{fund1 + bill1 + "End 1\n", 3, api.ErrForm},
	{fund1 + bill1 + "ends 1\n", 3, api.ErrForm},
	{fund1 + bill1 + "\n" + end1, 3, api.ErrForm},
	// behind the row "end"
	{fund1 + bill1 + end1 + "\n", 4, api.ErrForm},
	{fund1 + bill1 + end1 + "x", 4, api.ErrForm},
	{fund1 + bill1 + end1 + end1, 4, api.ErrForm},
	{"end 0\n" + fund1 + bill1 + end1, 2, api.ErrForm},
	{fund1 + "end 0\n" + bill1 + end1, 3, api.ErrForm},
	{fund1 + bill1 + "end 2\n" + bill1, 3, api.ErrForm},
	// numbers
	{"fund 00 5 9 0\n" + bill1 + end1, 1, api.ErrForm},
	{"fund 0 05 9 0\n" + bill1 + end1, 1, api.ErrForm},
	{"fund 0 5 +9 0\n" + bill1 + end1, 1, api.ErrForm},
	{"fund 0 5 -9 0\n" + bill1 + end1, 1, api.ErrForm},
	{"fund 0 5 9 -0\n" + bill1 + end1, 1, api.ErrForm},
	{"fund 0 5 12345678901 0\n" + bill1 + end1, 1, api.ErrForm},
	{"fund 0 5 00000000009 0\n" + bill1 + end1, 1, api.ErrForm},
	{"fund 0 5 9999999999 0\n" + bill1 + end1, 0, api.ErrRange},
	{fund1 + "bill 1 0 9999999999\n" + end1, 0, api.ErrRange},
	{fund1 + "bill 1 0 10000000000\n" + end1, 2, api.ErrForm},
	{fund1 + "bill 01 0 4\n" + end1, 2, api.ErrForm},
	{fund1 + "bill 1 0 -4\n" + end1, 2, api.ErrForm},
	{fund1 + bill1 + "end 11111111111\n", 3, api.ErrForm},
	{fund1 + bill1 + "end 4294967297\n", 3, api.ErrForm},
	// then what Check says
	{"fund 6 5 9\nend 0\n", 0, api.ErrOrder},
	{"fund 0 3650 9\nend 0\n", 0, api.OK},
	{"fund 0 3651 9\nend 0\n", 0, api.ErrRange},
	{"fund 0 5 1000000000\nend 0\n", 0, api.OK},
	{"fund 0 5 1000000001\nend 0\n", 0, api.ErrRange},
	{"fund 0 5 9 1 0\nend 0\n", 0, api.ErrOrder},
	{"fund 0 5 9 1 1\nend 0\n", 0, api.ErrOrder},
	{"fund 0 5 9 8\nend 0\n", 0, api.ErrRange},
	{"fund 0 5 9 0 1 2 3 4 5 6 7 8\nend 0\n", 0, api.ErrFull},
	{fund1 + "bill 3651 0 4\n" + end1, 0, api.ErrRange},
	{fund1 + "bill 1 8 4\n" + end1, 0, api.ErrRange},
	{strings.Repeat(fund1, 8) + bill1 + end1, 0, api.OK},
	{strings.Repeat(fund1, 9) + bill1 + end1, 0, api.ErrFull},
	{fund1 + strings.Repeat(bill1, 8) + "end 8\n", 0, api.OK},
	{fund1 + strings.Repeat(bill1, 9) + "end 9\n", 0, api.ErrFull},
	{"fund 6 5 9\n" + strings.Repeat(bill1, 9) + "end 9\n", 0, api.ErrOrder},
	{"fund 6 5 9\n" + bill1 + "end 2\n", 3, api.ErrForm},
	// how long a book may be
	{strings.Repeat("x", 2000), 1, api.ErrForm},
	{strings.Repeat("x", 2001), 0, api.ErrLong},
	{book + strings.Repeat("\n", 2000-len(book)), 8, api.ErrForm},
	{book + strings.Repeat("\n", 2001-len(book)), 0, api.ErrLong},
	{strings.Repeat("end 0\n", 333) + "x", 2, api.ErrForm},
	{strings.Repeat(bill1, 180) + "end 180\n", 0, api.ErrFull},
	{strings.Repeat(bill1, 180) + "end 181\n", 181, api.ErrForm},
}

// P9.6: Write.
func TestWrite(t *testing.T) {
	full := api.Ledger{
		Funds: slices.Repeat([]api.Fund{fund(3650, 3650, 1000000000, 0, 1, 2, 3, 4, 5, 6, 7)}, 8),
		Bills: slices.Repeat([]api.Bill{bill(3650, 7, 1000000000)}, 8),
	}
	for _, x := range []struct {
		l    api.Ledger
		want string
		e    api.Errno
	}{
		{carnival(), book, api.OK},
		{api.Ledger{}, "end 0\n", api.OK},
		{api.Ledger{Funds: []api.Fund{fund(1, 2, 3)}}, "fund 1 2 3\nend 0\n", api.OK},
		{api.Ledger{Bills: []api.Bill{bill(1, 2, 3)}}, "bill 1 2 3\nend 1\n", api.OK},
		{dear(1101), strings.Replace(book, "900", "1101", 1), api.OK},
		{full, strings.Repeat("fund 3650 3650 1000000000 0 1 2 3 4 5 6 7\n", 8) + strings.Repeat("bill 3650 7 1000000000\n", 8) + "end 8\n", api.OK},
		{dear(-1), "", api.ErrRange},
		{api.Ledger{Funds: make([]api.Fund, 9)}, "", api.ErrFull},
	} {
		if text, e := coin.Write(x.l); text != x.want || e != x.e {
			t.Errorf("%v %q %v", x.l, text, e)
		}
	}
}

// P9.6: Read.
func TestRead(t *testing.T) {
	if l, row, e := coin.Read(book); !sameLedger(l, carnival()) || row != 0 || e != api.OK {
		t.Error(l, row, e)
	}
	for _, x := range texts {
		l, row, e := coin.Read(x.text)
		if row != x.row || e != x.want || e != api.OK && len(l.Funds)+len(l.Bills) > 0 {
			t.Errorf("%q: %v %d %d", x.text, l, row, e)
		}
		if again, e2 := coin.Write(l); e == api.OK && (again != x.text || e2 != api.OK) {
			t.Errorf("%q: %q %d", x.text, again, e2)
		}
	}
}

// P9.14: a book is read from its ledger, and what is read is written as it was.
func TestBooks(t *testing.T) {
	for _, l := range slices.Concat(ledgers(29, 500, full), ledgers(30, 500, tiny), paidLedgers(31, 500, wide)) {
		text, e := coin.Write(l)
		if e != api.OK || len(text) > api.MaxLedger {
			t.Error(l, len(text), e)
		}
		read, row, e := coin.Read(text)
		if !sameLedger(read, l) || row != 0 || e != api.OK {
			t.Error(l, read, row, e)
		}
		if again, e := coin.Write(read); again != text || e != api.OK {
			t.Errorf("%q: %q %d", text, again, e)
		}
	}
}
