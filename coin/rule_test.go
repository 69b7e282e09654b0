package coin_test

import (
	"math"
	"slices"
	"strings"
	"testing"

	"bateria/api"
	"bateria/coin"
)

var strange = []int{math.MinInt, math.MinInt + 1, -3651, -2, -1, 0, 1, 2, 3, 7, 8, 9, 63, 64, 255, 256, 3650, 3651, 1000000000, 1000000001, math.MaxInt - 1, math.MaxInt}

// P1 and R5: any values are taken, and all functions return; R3: with an error the other results are zero values.
func TestStrangeArguments(t *testing.T) {
	for _, a := range strange {
		for _, b := range strange {
			for _, change := range []func(l *api.Ledger){
				func(l *api.Ledger) { l.Funds[1].Day, l.Funds[1].Until = a, b },
				func(l *api.Ledger) { l.Funds[0].Amount, l.Bills[0].Amount = a, b },
				func(l *api.Ledger) { l.Funds[2].Uses = []int{a, b} },
				func(l *api.Ledger) { l.Bills[1].Day, l.Bills[2].Use = a, b },
				func(l *api.Ledger) { l.Bills[2].Use, l.Bills[2].Amount = a, b },
			} {
				ask(t, changed(change), carnivalTrace(), 1, 20)
			}
			ask(t, carnival(), [][]int{{a, b, 0}, {b, a, 0}, {a, a, b}}, a, b)
			draw(t, []int{a, 0, b}, []int{1, 2, 3})
			draw(t, []int{1, 0, 5}, []int{b, 1, a})
			draw(t, []int{a}, []int{b})
		}
	}
	ask(t, api.Ledger{Funds: make([]api.Fund, 100000)}, nil, 0, 0)
	ask(t, api.Ledger{Bills: make([]api.Bill, 100000)}, make([][]int, 100000), 0, 0)
	ask(t, api.Ledger{Funds: []api.Fund{{Uses: make([]int, 100000)}}}, nil, 0, 0)
	ask(t, carnival(), make([][]int, 100000), 0, 0)
	ask(t, carnival(), [][]int{make([]int, 100000), nil, nil}, 0, 0)
	draw(t, make([]int, 100000), make([]int, 100000))
	draw(t, []int{1}, make([]int, 100000))
	for _, text := range []string{"\x00", "\xff\xfe\n", strings.Repeat("\n", 2000), strings.Repeat(" ", 2000), "fund" + strings.Repeat(" ", 1990) + "\n", "fund 0 5 9 \xff\nend 0\n", "end " + strings.Repeat("9", 1990) + "\n", "fund" + strings.Repeat(" 1", 990) + "\nend 0\n"} {
		if l, _, e := coin.Read(text); e == api.OK || len(l.Funds)+len(l.Bills) > 0 {
			t.Errorf("Read %q %v %v", text, l, e)
		}
	}
}

// ask asks all functions of ledgers, and looks for results beside an error.
func ask(t *testing.T, l api.Ledger, trace [][]int, fund, day int) {
	t.Helper()
	if trace, e := coin.Trace(l); e != api.OK && len(trace) > 0 || e == api.OK && len(trace) != len(l.Bills) {
		t.Error("Trace", l, trace, e)
	}
	if proof, e := coin.Short(l); (e == api.OK) == (len(proof) == 0) {
		t.Error("Short", l, proof, e)
	}
	if flaws, e := coin.Audit(l, trace); e != api.OK && len(flaws) > 0 {
		t.Error("Audit", l, trace, flaws, e)
	}
	if s, e := coin.Spent(l, fund); e != api.OK && s != span(0, 0) || s.Lo > s.Hi {
		t.Error("Spent", l, fund, s, e)
	}
	if n, e := coin.Balance(l, day); e != api.OK && n != 0 {
		t.Error("Balance", l, day, n, e)
	}
	if text, e := coin.Write(l); e != coin.Check(l) || (e == api.OK) == (text == "") {
		t.Error("Write", l, text, e)
	}
}

// draw draws, and looks for results beside an error.
func draw(t *testing.T, tickets, secrets []int) {
	t.Helper()
	ticket, holder, e := coin.Draw(tickets, secrets)
	if e != api.OK && (ticket != 0 || holder != 0) || e == api.OK && (ticket < 0 || holder < 0 || holder >= len(tickets) || tickets[holder] == 0) {
		t.Error("Draw", tickets, secrets, ticket, holder, e)
	}
}

// roomy is a list with room behind its end, which belongs to the caller; strangers stand there.
func roomy[T any](list []T, stranger T) []T {
	return append(slices.Clone(list), stranger, stranger, stranger)[:len(list)]
}

// isRoomy says whether nothing was written behind the end of a list.
func isRoomy[T comparable](list []T, stranger T) bool {
	return slices.Equal(list[:len(list)+3][len(list):], []T{stranger, stranger, stranger})
}

// overwrite writes into a list, and behind its end.
func overwrite[T any](list []T, thing T) {
	_ = append(list, thing, thing, thing)
	for i := range list {
		list[i] = thing
	}
}

// R4: arguments are not changed, not even behind their ends, and results are new memory.
func TestMemory(t *testing.T) {
	l, trace := carnival(), carnivalTrace()
	l.Bills = roomy(l.Bills, bill(77, 7, 7))
	for k := range l.Funds {
		l.Funds[k].Uses = roomy(l.Funds[k].Uses, 77)
	}
	for i := range trace {
		trace[i] = roomy(trace[i], 77)
	}
	tickets, secrets := roomy([]int{3, 0, 2}, 77), roomy([]int{7, 1, 6}, 77)
	for range 2 { // a second time, after the results of the first one were changed
		ask(t, l, trace, 1, 20)
		draw(t, tickets, secrets)
		if text, e := coin.Write(l); text != book || e != api.OK {
			t.Errorf("%q %v", text, e)
		}
		paid := traceOf(t, l)
		for i, row := range paid {
			if !slices.Equal(row, carnivalTrace()[i]) {
				t.Error(i, paid)
			}
			overwrite(row, 99)
		}
	}
	if !sameLedger(l, carnival()) || !sameTrace(trace, carnivalTrace()) || !slices.Equal(tickets, []int{3, 0, 2}) || !slices.Equal(secrets, []int{7, 1, 6}) {
		t.Error(l, trace, tickets, secrets)
	}
	if !isRoomy(l.Bills, bill(77, 7, 7)) || !isRoomy(tickets, 77) || !isRoomy(secrets, 77) {
		t.Error(l, tickets, secrets)
	}
	for k := range l.Funds {
		if !isRoomy(l.Funds[k].Uses, 77) || !isRoomy(trace[k], 77) {
			t.Error(l, trace)
		}
	}
}

// R4: what is read, what proves, and flaws are new memory, too.
func TestMemoryOfResults(t *testing.T) {
	const text = "fund 0 9 1 0 1\nfund 0 9 1 0 2\nbill 1 0 2\nbill 2 0 3\nend 2\n"
	for range 2 {
		l, _, e := coin.Read(text)
		if again, _ := coin.Write(l); again != text || e != api.OK {
			t.Error(l, e)
		}
		proof, _ := coin.Short(l)
		flaws := audit(t, l, [][]int{{1, 0}, {3, 0}})
		if !slices.Equal(proof, []int{1}) || !slices.Equal(flaws, []api.Flaw{{Kind: 1}, {Kind: 3}}) {
			t.Error(proof, flaws)
		}
		overwrite(l.Funds[0].Uses, 9)
		if !sameFund(l.Funds[1], fund(0, 9, 1, 0, 2)) {
			t.Error(l)
		}
		overwrite(l.Funds[1].Uses, 9)
		overwrite(l.Funds, api.Fund{})
		overwrite(l.Bills, api.Bill{})
		overwrite(proof, 9)
		overwrite(flaws, api.Flaw{})
	}
}

// R4: a nil slice and an empty one are equal.
func TestEmpty(t *testing.T) {
	for _, l := range []api.Ledger{{}, {Funds: []api.Fund{}, Bills: []api.Bill{}}} {
		for _, trace := range [][][]int{nil, {}} {
			if flaws := audit(t, l, trace); len(flaws) > 0 {
				t.Error(flaws)
			}
		}
		text, e := coin.Write(l)
		if trace := traceOf(t, l); len(trace) > 0 || !isPaid(t, l) || balance(t, l, 3650) != 0 || text != "end 0\n" || e != api.OK {
			t.Error(trace, text, e)
		}
	}
	for _, uses := range [][]int{nil, {}} {
		l := changed(func(l *api.Ledger) { l.Funds[0].Uses = uses })
		if proof, e := coin.Short(l); !slices.Equal(proof, []int{1}) || e != api.OK {
			t.Error(proof, e)
		}
	}
	for _, row := range [][]int{nil, {}} {
		if flaws := audit(t, api.Ledger{Bills: make([]api.Bill, 1)}, [][]int{row}); len(flaws) > 0 {
			t.Error(flaws)
		}
	}
	for _, list := range [][]int{nil, {}} {
		if ticket, holder, e := coin.Draw(list, nil); ticket != 0 || holder != 0 || e != api.ErrShort {
			t.Error(ticket, holder, e)
		}
	}
}

// R7: the greatest sums are exact.
func TestGreatest(t *testing.T) {
	l := api.Ledger{
		Funds: slices.Repeat([]api.Fund{fund(0, 3650, api.MaxCoins, 0, 1, 2, 3, 4, 5, 6, 7)}, 8),
		Bills: slices.Repeat([]api.Bill{bill(3650, 7, api.MaxCoins)}, 8),
	}
	if trace := traceOf(t, l); !sameTrace(trace, unit(8, api.MaxCoins)) || spent(t, l, 7) != span(api.MaxCoins, api.MaxCoins) || balance(t, l, 3649) != 8*api.MaxCoins || balance(t, l, 3650) != 0 {
		t.Error(trace, spent(t, l, 7))
	}
	l.Bills[7].Amount--
	if s := spent(t, l, 0); s != span(api.MaxCoins-1, api.MaxCoins) {
		t.Error(s)
	}
	l.Funds[0].Amount -= 2
	if proof, e := coin.Short(l); !slices.Equal(proof, []int{0, 1, 2, 3, 4, 5, 6, 7}) || e != api.OK {
		t.Error(proof, e)
	}
}
