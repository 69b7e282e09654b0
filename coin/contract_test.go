package coin_test

import (
	"slices"
	"testing"

	"bateria/api"
	"bateria/coin"
)

var checks = []struct {
	about  string
	change func(l *api.Ledger)
	want   api.Errno
}{
	{"the example", func(l *api.Ledger) {}, api.OK},
	{"nothing", func(l *api.Ledger) { *l = api.Ledger{} }, api.OK},
	{"no funds", func(l *api.Ledger) { l.Funds = nil }, api.OK},
	{"no bills", func(l *api.Ledger) { l.Bills = nil }, api.OK},
	// funds
	{"as many funds as may be", func(l *api.Ledger) { l.Funds = make([]api.Fund, 8) }, api.OK},
	{"too many funds", func(l *api.Ledger) { l.Funds = make([]api.Fund, 9) }, api.ErrFull},
	{"too many funds before what they are", func(l *api.Ledger) { l.Funds = slices.Repeat([]api.Fund{fund(-1, 0, 0)}, 9) }, api.ErrFull},
	{"too many funds before bills", func(l *api.Ledger) { l.Funds, l.Bills[0].Day = make([]api.Fund, 9), -1 }, api.ErrFull},
	{"a day below 0", func(l *api.Ledger) { l.Funds[0].Day = -1 }, api.ErrRange},
	{"the first day", func(l *api.Ledger) { l.Funds[1].Day = 0 }, api.OK},
	{"the last day", func(l *api.Ledger) { l.Funds[0].Day, l.Funds[0].Until = 3650, 3650 }, api.OK},
	{"a day too late", func(l *api.Ledger) { l.Funds[0].Day, l.Funds[0].Until = 3651, 3651 }, api.ErrRange},
	{"a day too late before the order", func(l *api.Ledger) { l.Funds[0].Day = 3651 }, api.ErrRange},
	{"an end below 0", func(l *api.Ledger) { l.Funds[0].Until = -1 }, api.ErrRange},
	{"an end on the first day", func(l *api.Ledger) { l.Funds[0].Until = 0 }, api.OK},
	{"an end on the last day", func(l *api.Ledger) { l.Funds[0].Until = 3650 }, api.OK},
	{"an end too late", func(l *api.Ledger) { l.Funds[0].Until = 3651 }, api.ErrRange},
	{"the second example", func(l *api.Ledger) { l.Funds[0].Day, l.Funds[0].Until = 1, 0 }, api.ErrOrder},
	{"a day on the end", func(l *api.Ledger) { l.Funds[0].Day = 30 }, api.OK},
	{"a day behind the end", func(l *api.Ledger) { l.Funds[0].Day = 31 }, api.ErrOrder},
	{"the order of days before an amount", func(l *api.Ledger) { l.Funds[0].Day, l.Funds[0].Amount = 31, -1 }, api.ErrOrder},
	{"an amount below 0", func(l *api.Ledger) { l.Funds[0].Amount = -1 }, api.ErrRange},
	{"no amount", func(l *api.Ledger) { l.Funds[0].Amount = 0 }, api.OK},
	{"the greatest amount", func(l *api.Ledger) { l.Funds[0].Amount = 1000000000 }, api.OK},
	{"an amount too great", func(l *api.Ledger) { l.Funds[0].Amount = 1000000001 }, api.ErrRange},
	{"an amount before uses", func(l *api.Ledger) { l.Funds[0].Amount, l.Funds[0].Uses = -1, make([]int, 9) }, api.ErrRange},
	// uses
	{"no uses", func(l *api.Ledger) { l.Funds[0].Uses = nil }, api.OK},
	{"all uses", func(l *api.Ledger) { l.Funds[0].Uses = []int{0, 1, 2, 3, 4, 5, 6, 7} }, api.OK},
	{"too many uses", func(l *api.Ledger) { l.Funds[0].Uses = []int{0, 1, 2, 3, 4, 5, 6, 7, 8} }, api.ErrFull},
	{"too many uses before what they are", func(l *api.Ledger) { l.Funds[0].Uses = slices.Repeat([]int{-1}, 9) }, api.ErrFull},
	{"a use below 0", func(l *api.Ledger) { l.Funds[0].Uses = []int{-1, 1} }, api.ErrRange},
	{"a use that cannot be", func(l *api.Ledger) { l.Funds[0].Uses = []int{0, 8} }, api.ErrRange},
	{"the last use alone", func(l *api.Ledger) { l.Funds[0].Uses = []int{7} }, api.OK},
	{"the third example", func(l *api.Ledger) { l.Funds[0].Uses = []int{1, 0} }, api.ErrOrder},
	{"a use twice", func(l *api.Ledger) { l.Funds[0].Uses = []int{0, 0} }, api.ErrOrder},
	{"a use twice, apart", func(l *api.Ledger) { l.Funds[0].Uses = []int{0, 1, 0} }, api.ErrOrder},
	{"a use that cannot be, in no order", func(l *api.Ledger) { l.Funds[0].Uses = []int{1, -1} }, api.ErrRange},
	{"the order of a use before the next use", func(l *api.Ledger) { l.Funds[0].Uses = []int{1, 0, 8} }, api.ErrOrder},
	{"a use before the order of the next one", func(l *api.Ledger) { l.Funds[0].Uses = []int{8, 1, 0} }, api.ErrRange},
	{"one fund before the next one", func(l *api.Ledger) { l.Funds[0].Uses, l.Funds[1].Day = []int{1, 0}, -1 }, api.ErrOrder},
	{"one fund before the next one, the other way", func(l *api.Ledger) { l.Funds[0].Amount, l.Funds[1].Uses = -1, []int{1, 0} }, api.ErrRange},
	{"the last fund", func(l *api.Ledger) { l.Funds[2].Uses = make([]int, 9) }, api.ErrFull},
	// bills
	{"as many bills as may be", func(l *api.Ledger) { l.Bills = make([]api.Bill, 8) }, api.OK},
	{"too many bills", func(l *api.Ledger) { l.Bills = make([]api.Bill, 9) }, api.ErrFull},
	{"too many bills before what they are", func(l *api.Ledger) { l.Bills = slices.Repeat([]api.Bill{bill(-1, 0, 0)}, 9) }, api.ErrFull},
	{"funds before too many bills", func(l *api.Ledger) { l.Funds[2].Day, l.Bills = 41, make([]api.Bill, 9) }, api.ErrOrder},
	{"funds before bills", func(l *api.Ledger) { l.Funds[2].Day, l.Bills[0].Day = 41, -1 }, api.ErrOrder},
	{"a day of a bill below 0", func(l *api.Ledger) { l.Bills[0].Day = -1 }, api.ErrRange},
	{"a bill on the first day", func(l *api.Ledger) { l.Bills[0].Day = 0 }, api.OK},
	{"a bill on the last day", func(l *api.Ledger) { l.Bills[0].Day = 3650 }, api.OK},
	{"a bill too late", func(l *api.Ledger) { l.Bills[0].Day = 3651 }, api.ErrRange},
	{"a use of a bill below 0", func(l *api.Ledger) { l.Bills[0].Use = -1 }, api.ErrRange},
	{"the last use of a bill", func(l *api.Ledger) { l.Bills[0].Use = 7 }, api.OK},
	{"the fourth example", func(l *api.Ledger) { l.Bills[0].Use = 8 }, api.ErrRange},
	{"an amount of a bill below 0", func(l *api.Ledger) { l.Bills[0].Amount = -1 }, api.ErrRange},
	{"no amount of a bill", func(l *api.Ledger) { l.Bills[0].Amount = 0 }, api.OK},
	{"the greatest amount of a bill", func(l *api.Ledger) { l.Bills[0].Amount = 1000000000 }, api.OK},
	{"an amount of a bill too great", func(l *api.Ledger) { l.Bills[0].Amount = 1000000001 }, api.ErrRange},
	{"the last bill", func(l *api.Ledger) { l.Bills[2].Amount = -1 }, api.ErrRange},
}

// P9.1, and what the other contracts say of errors: Check, and the errors that the other functions return first; R3: the other results are zero values then.
func TestCheck(t *testing.T) {
	for _, x := range checks {
		l := changed(x.change)
		if e := coin.Check(l); e != x.want {
			t.Error(x.about, e)
		}
		if text, e := coin.Write(l); e != x.want || (text == "") != (e != api.OK) {
			t.Error(x.about, text, e)
		}
		trace, e := coin.Trace(l)
		proof, e2 := coin.Short(l)
		if x.want != api.OK && (len(trace) > 0 || e != x.want || len(proof) > 0 || e2 != x.want) {
			t.Error(x.about, trace, e, proof, e2)
		}
		if x.want == api.OK && (e == api.OK) != (e2 == api.ErrMissing) {
			t.Error(x.about, trace, e, proof, e2)
		}
		first := func(e api.Errno) api.Errno {
			if x.want != api.OK {
				return x.want
			}
			return e
		}
		if flaws, e := coin.Audit(l, make([][]int, 10)); len(flaws) > 0 || e != first(api.ErrForm) {
			t.Error(x.about, flaws, e)
		}
		if s, e := coin.Spent(l, -1); s != span(0, 0) || e != first(api.ErrMissing) {
			t.Error(x.about, s, e)
		}
		if n, e := coin.Balance(l, -1); n != 0 || e != first(api.ErrRange) {
			t.Error(x.about, n, e)
		}
	}
}

var ledgersByHand = []struct {
	about string
	l     api.Ledger
	trace [][]int
	short []int
}{
	{"the example", carnival(), carnivalTrace(), nil},
	{"the second example", dear(1101), nil, []int{1, 2}},
	{"the third example", changed(func(l *api.Ledger) { l.Bills[2].Day = 41 }), nil, []int{2}},
	{"just enough", dear(1000), [][]int{{100, 500, 0}, {900, 0, 100}, {0, 0, 200}}, nil},
	{"a coin too much", dear(1001), nil, []int{0, 1, 2}},
	{"a bill that costs nothing", dear(0), [][]int{{600, 0, 0}, {0, 0, 0}, {0, 0, 200}}, nil},
	{"nothing", api.Ledger{}, nil, nil},
	{"no bills", api.Ledger{Funds: carnival().Funds}, nil, nil},
	{"no funds", api.Ledger{Bills: carnival().Bills}, nil, []int{0}},
	{"no funds, and nothing to pay", api.Ledger{Bills: make([]api.Bill, 2)}, [][]int{nil, nil}, nil},
	{"no funds, and the last bill is to be paid", api.Ledger{Bills: []api.Bill{{}, {}, bill(0, 0, 1)}}, nil, []int{2}},
	{"nothing to pay that could be paid", changed(func(l *api.Ledger) { l.Bills = []api.Bill{bill(3650, 7, 0)} }), [][]int{{0, 0, 0}}, nil},
	// days
	{"on the first day", api.Ledger{Funds: []api.Fund{fund(5, 9, 1, 0)}, Bills: []api.Bill{bill(5, 0, 1)}}, [][]int{{1}}, nil},
	{"a day before", api.Ledger{Funds: []api.Fund{fund(5, 9, 1, 0)}, Bills: []api.Bill{bill(4, 0, 1)}}, nil, []int{0}},
	{"on the last day", api.Ledger{Funds: []api.Fund{fund(5, 9, 1, 0)}, Bills: []api.Bill{bill(9, 0, 1)}}, [][]int{{1}}, nil},
	{"a day behind", api.Ledger{Funds: []api.Fund{fund(5, 9, 1, 0)}, Bills: []api.Bill{bill(10, 0, 1)}}, nil, []int{0}},
	// uses
	{"the first and the last use", api.Ledger{Funds: []api.Fund{fund(0, 9, 3, 0, 7)}, Bills: []api.Bill{bill(0, 7, 1), bill(9, 0, 2)}}, [][]int{{1}, {2}}, nil},
	{"a use between them", api.Ledger{Funds: []api.Fund{fund(0, 9, 3, 0, 7)}, Bills: []api.Bill{bill(0, 7, 1), bill(0, 1, 1), bill(0, 0, 1)}}, nil, []int{1}},
	{"a fund for nothing", api.Ledger{Funds: []api.Fund{fund(0, 9, 9), fund(0, 9, 1, 0)}, Bills: []api.Bill{bill(0, 0, 1)}}, [][]int{{0, 1}}, nil},
	// as much as can be from the first fund
	{"a chain", chain(), [][]int{{0, 0, 5}, {5, 0, 0}, {0, 5, 0}}, nil},
	{"a chain with two coins to spare", api.Ledger{
		Funds: []api.Fund{fund(0, 9, 5, 0, 1), fund(0, 9, 5, 1, 2), fund(0, 9, 5, 0)},
		Bills: []api.Bill{bill(0, 0, 5), bill(0, 1, 4), bill(0, 2, 4)},
	}, [][]int{{2, 0, 3}, {3, 1, 0}, {0, 4, 0}}, nil},
	{"from one fund after the other", api.Ledger{
		Funds: []api.Fund{fund(0, 9, 2, 0), fund(0, 9, 3, 0), fund(0, 9, 4, 0)},
		Bills: []api.Bill{bill(0, 0, 4), bill(0, 0, 2), bill(0, 0, 2)},
	}, [][]int{{2, 2, 0}, {0, 1, 1}, {0, 0, 2}}, nil},
	{"the second bill may not take what the third one needs", api.Ledger{
		Funds: []api.Fund{fund(0, 9, 4, 0, 1), fund(0, 9, 4, 0)},
		Bills: []api.Bill{bill(0, 0, 2), bill(0, 0, 3), bill(0, 1, 1)},
	}, [][]int{{2, 0}, {1, 2}, {1, 0}}, nil},
	{"as many of all as may be", api.Ledger{
		Funds: slices.Repeat([]api.Fund{fund(0, 3650, 1000000000, 7)}, 8),
		Bills: slices.Repeat([]api.Bill{bill(3650, 7, 1000000000)}, 8),
	}, unit(8, 1000000000), nil},
	// the fewest bills, and the first ones of as many
	{"the first one of two that prove it alone", changed(func(l *api.Ledger) { l.Bills[0].Amount, l.Bills[2].Amount = 1801, 301 }), nil, []int{0}},
	{"one bill before two", changed(func(l *api.Ledger) { l.Bills[1].Amount, l.Bills[2].Amount = 1200, 301 }), nil, []int{2}},
	{"the first two of three", api.Ledger{
		Funds: []api.Fund{fund(0, 9, 3, 0)},
		Bills: slices.Repeat([]api.Bill{bill(0, 0, 2)}, 3),
	}, nil, []int{0, 1}},
	{"the first and the last one", api.Ledger{
		Funds: []api.Fund{fund(0, 9, 3, 0), fund(0, 9, 3, 1)},
		Bills: []api.Bill{bill(0, 0, 2), bill(0, 1, 2), bill(0, 1, 1), bill(0, 0, 2)},
	}, nil, []int{0, 3}},
	{"the first and the last one before the two between them", api.Ledger{
		Funds: []api.Fund{fund(0, 9, 3, 0), fund(0, 9, 3, 1)},
		Bills: []api.Bill{bill(0, 0, 2), bill(0, 1, 2), bill(0, 1, 2), bill(0, 0, 2)},
	}, nil, []int{0, 3}},
	{"without a bill that costs nothing", api.Ledger{
		Funds: []api.Fund{fund(0, 9, 3, 0)},
		Bills: []api.Bill{{}, bill(0, 0, 2), {}, bill(0, 0, 2)},
	}, nil, []int{1, 3}},
	{"all bills", api.Ledger{
		Funds: []api.Fund{fund(0, 9, 999999999, 0), fund(0, 9, 1000000000, 0), fund(0, 9, 1000000000, 0), fund(0, 9, 1000000000, 0), fund(0, 9, 1000000000, 0), fund(0, 9, 1000000000, 0), fund(0, 9, 1000000000, 0), fund(0, 9, 1000000000, 0)},
		Bills: slices.Repeat([]api.Bill{bill(0, 0, 1000000000)}, 8),
	}, nil, []int{0, 1, 2, 3, 4, 5, 6, 7}},
}

// unit is a trace in which each bill gets so many coins of the fund with its number.
func unit(many, coins int) [][]int {
	trace := make([][]int, many)
	for i := range trace {
		trace[i] = make([]int, many)
		trace[i][i] = coins
	}
	return trace
}

// P9.1 and P9.2: Trace and Short.
func TestTrace(t *testing.T) {
	for _, x := range ledgersByHand {
		want, wantShort := api.OK, api.ErrMissing
		if x.short != nil {
			want, wantShort = api.ErrShort, api.OK
		}
		trace, e := coin.Trace(x.l)
		if !sameTrace(trace, x.trace) || e != want {
			t.Error(x.about, trace, e)
		}
		proof, e := coin.Short(x.l)
		if !slices.Equal(proof, x.short) || e != wantShort {
			t.Error(x.about, proof, e)
		}
		if !slices.Equal(proofOf(x.l), x.short) {
			t.Error("the model:", x.about, proofOf(x.l))
		}
	}
}

// P9.3: Audit.
func TestAudit(t *testing.T) {
	ofBill := func(bill int) api.Flaw { return api.Flaw{Kind: api.FlawBill, Bill: bill} }
	ofUse := func(bill, fund int) api.Flaw { return api.Flaw{Kind: api.FlawUse, Bill: bill, Fund: fund} }
	ofFund := func(fund int) api.Flaw { return api.Flaw{Kind: api.FlawFund, Fund: fund} }
	const great = 1000000000
	for _, x := range []struct {
		about string
		trace [][]int
		want  []api.Flaw
		e     api.Errno
	}{
		{"the first example", carnivalTrace(), nil, api.OK},
		{"the second example", [][]int{{100, 400, 0}, {800, 0, 100}, {0, 0, 200}}, []api.Flaw{ofBill(0)}, api.OK},
		{"the third example", [][]int{{200, 400, 0}, {800, 0, 100}, {200, 0, 0}}, []api.Flaw{ofUse(2, 0), ofFund(0)}, api.OK},
		{"another trace", [][]int{{100, 500, 0}, {900, 0, 0}, {0, 0, 200}}, nil, api.OK},
		{"a coin too many", [][]int{{201, 400, 0}, {799, 0, 101}, {0, 0, 199}}, []api.Flaw{ofBill(0), ofBill(2)}, api.OK},
		{"nothing is paid", [][]int{{0, 0, 0}, {0, 0, 0}, {0, 0, 0}}, []api.Flaw{ofBill(0), ofBill(1), ofBill(2)}, api.OK},
		{"a bill before its uses, and before the next bill", [][]int{{200, 401, 0}, {800, 1, 100}, {1, 1, 200}}, []api.Flaw{ofBill(0), ofBill(1), ofUse(1, 1), ofBill(2), ofUse(2, 0), ofUse(2, 1), ofFund(0)}, api.OK},
		{"funds at last", [][]int{{1000, 501, 1}, {899, 1, 100}, {1, 1, 198}}, []api.Flaw{ofBill(0), ofBill(1), ofUse(1, 1), ofUse(2, 0), ofUse(2, 1), ofFund(0), ofFund(1)}, api.OK},
		{"the last fund alone", [][]int{{200, 400, 0}, {700, 0, 200}, {0, 0, 200}}, []api.Flaw{ofFund(2)}, api.OK},
		{"all coins of a fund", [][]int{{200, 400, 0}, {799, 0, 101}, {0, 0, 199}}, []api.Flaw{ofBill(2)}, api.OK},
		{"one coin that a fund cannot pay", [][]int{{200, 400, 0}, {799, 1, 100}, {0, 0, 200}}, []api.Flaw{ofUse(1, 1)}, api.OK},
		{"the greatest numbers", slices.Repeat([][]int{{great, great, great}}, 3), []api.Flaw{ofBill(0), ofBill(1), ofUse(1, 1), ofBill(2), ofUse(2, 0), ofUse(2, 1), ofFund(0), ofFund(1), ofFund(2)}, api.OK},
		// its form
		{"no lists", nil, nil, api.ErrForm},
		{"a list less", carnivalTrace()[:2], nil, api.ErrForm},
		{"a list more", append(carnivalTrace(), nil), nil, api.ErrForm},
		{"a list more, like the others", append(carnivalTrace(), []int{0, 0, 0}), nil, api.ErrForm},
		{"the first list is shorter", [][]int{{200, 400}, {800, 0, 100}, {0, 0, 200}}, nil, api.ErrForm},
		{"the last list is longer", [][]int{{200, 400, 0}, {800, 0, 100}, {0, 0, 200, 0}}, nil, api.ErrForm},
		{"an empty list", [][]int{{200, 400, 0}, nil, {0, 0, 200}}, nil, api.ErrForm},
		{"the form before numbers", [][]int{{-1, 400, 0}, {800, 0, 100}, {0, 0}}, nil, api.ErrForm},
		{"the form before numbers, with a list less", [][]int{{-1, 400, 0}, {800, 0, 100}}, nil, api.ErrForm},
		// its numbers
		{"a number below 0", [][]int{{-1, 400, 0}, {800, 0, 100}, {0, 0, 200}}, nil, api.ErrRange},
		{"the last number below 0", [][]int{{200, 400, 0}, {800, 0, 100}, {0, 0, -1}}, nil, api.ErrRange},
		{"a number below 0 that makes a sum right", [][]int{{200, 401, -1}, {800, 0, 100}, {0, 0, 200}}, nil, api.ErrRange},
		{"a number too great", [][]int{{200, 400, 0}, {800, great + 1, 100}, {0, 0, 200}}, nil, api.ErrRange},
		{"numbers before flaws", [][]int{{0, 0, 0}, {0, 0, 0}, {0, 9, great + 1}}, nil, api.ErrRange},
	} {
		flaws, e := coin.Audit(carnival(), x.trace)
		if !slices.Equal(flaws, x.want) || e != x.e {
			t.Error(x.about, flaws, e)
		}
		if e == api.OK && !slices.Equal(flawsOf(carnival(), x.trace), x.want) {
			t.Error("the model:", x.about, flawsOf(carnival(), x.trace))
		}
	}
}

// P9.3: Audit of other ledgers: also of those that have no trace.
func TestAuditOthers(t *testing.T) {
	for _, x := range []struct {
		about string
		l     api.Ledger
		trace [][]int
		want  []api.Flaw
		e     api.Errno
	}{
		{"nothing", api.Ledger{}, nil, nil, api.OK},
		{"nothing, but a list", api.Ledger{}, [][]int{nil}, nil, api.ErrForm},
		{"no bills", api.Ledger{Funds: carnival().Funds}, nil, nil, api.OK},
		{"no funds", api.Ledger{Bills: carnival().Bills}, [][]int{nil, nil, nil}, []api.Flaw{{Kind: 1}, {Kind: 1, Bill: 1}, {Kind: 1, Bill: 2}}, api.OK},
		{"no funds, but a number", api.Ledger{Bills: carnival().Bills}, [][]int{nil, nil, {0}}, nil, api.ErrForm},
		{"too dear", dear(1101), [][]int{{100, 500, 0}, {1101, 0, 0}, {0, 0, 200}}, []api.Flaw{{Kind: 3}}, api.OK},
		{"a day too late", changed(func(l *api.Ledger) { l.Bills[0].Day = 21 }), carnivalTrace(), []api.Flaw{{Kind: 2, Bill: 0, Fund: 1}}, api.OK},
		{"a day too early", changed(func(l *api.Ledger) { l.Bills[0].Day = 4 }), carnivalTrace(), []api.Flaw{{Kind: 2, Bill: 0, Fund: 1}}, api.OK},
		{"the first day", changed(func(l *api.Ledger) { l.Bills[0].Day = 5 }), carnivalTrace(), nil, api.OK},
		{"the last day", changed(func(l *api.Ledger) { l.Bills[0].Day = 20 }), carnivalTrace(), nil, api.OK},
	} {
		if flaws, e := coin.Audit(x.l, x.trace); !slices.Equal(flaws, x.want) || e != x.e {
			t.Error(x.about, flaws, e)
		}
	}
}

// P9.4: Spent.
func TestSpent(t *testing.T) {
	shared := api.Ledger{
		Funds: []api.Fund{fund(0, 9, 5, 0), fund(0, 9, 7, 0, 1), fund(0, 9, 9, 2)},
		Bills: []api.Bill{bill(0, 0, 4), bill(0, 1, 3), bill(0, 0, 2)},
	}
	for _, x := range []struct {
		about string
		l     api.Ledger
		fund  int
		want  api.Span
		e     api.Errno
	}{
		{"the first example", carnival(), 0, span(900, 1000), api.OK},
		{"the second example", carnival(), 1, span(400, 500), api.OK},
		{"the third example", carnival(), 2, span(200, 300), api.OK},
		{"just enough", dear(1000), 0, span(1000, 1000), api.OK},
		{"just enough, and all of it", dear(1000), 2, span(300, 300), api.OK},
		{"a bill that costs nothing", dear(0), 0, span(0, 600), api.OK},
		{"a bill that costs nothing, and a fund that is too small", dear(0), 1, span(0, 500), api.OK},
		{"a chain", chain(), 1, span(5, 5), api.OK},
		{"no bills", api.Ledger{Funds: carnival().Funds}, 0, span(0, 0), api.OK},
		{"two bills of one fund", shared, 0, span(2, 5), api.OK},
		{"three bills of one fund", shared, 1, span(4, 7), api.OK},
		{"a fund that can pay no bill", shared, 2, span(0, 0), api.OK},
		{"a fund of nothing", api.Ledger{Funds: []api.Fund{fund(0, 0, 0, 0), fund(0, 0, 1, 0)}, Bills: []api.Bill{bill(0, 0, 1)}}, 0, span(0, 0), api.OK},
		{"a fund alone", api.Ledger{Funds: []api.Fund{fund(0, 0, 9, 0)}, Bills: []api.Bill{bill(0, 0, 1), bill(0, 0, 2)}}, 0, span(3, 3), api.OK},
		{"a fund below 0", carnival(), -1, span(0, 0), api.ErrMissing},
		{"a fund that is not", carnival(), 3, span(0, 0), api.ErrMissing},
		{"no funds", api.Ledger{}, 0, span(0, 0), api.ErrMissing},
		{"no trace", dear(1101), 0, span(0, 0), api.ErrShort},
		{"a coin too much", dear(1001), 0, span(0, 0), api.ErrShort},
		{"no trace, and another fund", dear(1101), 1, span(0, 0), api.ErrShort},
		{"a fund that is not before no trace", dear(1101), 3, span(0, 0), api.ErrMissing},
	} {
		if s, e := coin.Spent(x.l, x.fund); s != x.want || e != x.e {
			t.Error(x.about, s, e)
		}
	}
}

// P9.4: Balance; also that of a ledger without a trace.
func TestBalance(t *testing.T) {
	late := api.Ledger{Funds: []api.Fund{fund(7, 9, 5, 0)}, Bills: []api.Bill{bill(3, 0, 5)}}
	for _, x := range []struct {
		l         api.Ledger
		day, want int
		e         api.Errno
	}{
		{carnival(), 0, 1300, api.OK},
		{carnival(), 4, 1300, api.OK},
		{carnival(), 5, 1800, api.OK},
		{carnival(), 9, 1800, api.OK},
		{carnival(), 10, 1200, api.OK},
		{carnival(), 14, 1200, api.OK},
		{carnival(), 15, 300, api.OK},
		{carnival(), 34, 300, api.OK},
		{carnival(), 35, 100, api.OK},
		{carnival(), 40, 100, api.OK},
		{carnival(), 41, 100, api.OK}, // what has come stays, also when it cannot be paid any more
		{carnival(), 3650, 100, api.OK},
		{carnival(), 3651, 0, api.ErrRange},
		{carnival(), -1, 0, api.ErrRange},
		{late, 2, 0, api.OK},
		{late, 3, -5, api.OK},
		{late, 6, -5, api.OK},
		{late, 7, 0, api.OK},
		{dear(1101), 3650, -101, api.OK},
		{api.Ledger{}, 0, 0, api.OK},
		{api.Ledger{}, 3651, 0, api.ErrRange},
		{api.Ledger{Funds: slices.Repeat([]api.Fund{fund(3650, 3650, 1000000000)}, 8)}, 3650, 8000000000, api.OK},
		{api.Ledger{Funds: slices.Repeat([]api.Fund{fund(3650, 3650, 1000000000)}, 8)}, 3649, 0, api.OK},
		{api.Ledger{Bills: slices.Repeat([]api.Bill{bill(3650, 7, 1000000000)}, 8)}, 3650, -8000000000, api.OK},
	} {
		if n, e := coin.Balance(x.l, x.day); n != x.want || e != x.e {
			t.Error(x.l, x.day, n, e)
		}
	}
}

// P9.5: Draw.
func TestDraw(t *testing.T) {
	const great = 1000000000
	for _, x := range []struct {
		about            string
		tickets, secrets []int
		ticket, holder   int
		e                api.Errno
	}{
		{"the first example", []int{3, 0, 2}, []int{7, 1, 6}, 4, 2, api.OK},
		{"the second example", []int{3, 0, 2}, []int{0, 0, 0}, 0, 0, api.OK},
		{"the third example", []int{0, 0}, []int{1, 1}, 0, 0, api.ErrShort},
		{"the last ticket of a holder", []int{3, 0, 2}, []int{1, 1, 0}, 2, 0, api.OK},
		{"the first ticket of a holder", []int{3, 0, 2}, []int{1, 1, 1}, 3, 2, api.OK},
		{"as much as there are tickets", []int{3, 0, 2}, []int{5, 0, 0}, 0, 0, api.OK},
		{"one ticket", []int{1}, []int{great}, 0, 0, api.OK},
		{"the last one of many holders", []int{0, 0, 0, 0, 0, 0, 0, 0, 0, 0, 0, 1}, make([]int, 12), 0, 11, api.OK},
		{"the first holder without tickets", []int{0, 2, 1}, []int{0, 2, 0}, 2, 2, api.OK},
		{"a holder without tickets behind", []int{1, 1, 0}, []int{0, 0, 1}, 1, 1, api.OK},
		{"the secret of a holder without tickets", []int{2, 0, 2}, []int{1, 1, 1}, 3, 2, api.OK},
		{"as much of all as may be", slices.Repeat([]int{1000}, 12), slices.Repeat([]int{great}, 12), 0, 0, api.OK},
		{"as much of all as may be, less one", slices.Repeat([]int{1000}, 12), append(slices.Repeat([]int{great}, 11), great-1), 11999, 11, api.OK},
		// errors
		{"too many holders", make([]int, 13), make([]int, 13), 0, 0, api.ErrFull},
		{"too many holders before tickets", slices.Repeat([]int{-1}, 13), nil, 0, 0, api.ErrFull},
		{"tickets below 0", []int{1, -1}, []int{1, 1}, 0, 0, api.ErrRange},
		{"too many tickets", []int{1, 1001}, []int{1, 1}, 0, 0, api.ErrRange},
		{"tickets before secrets", []int{1, 1001}, []int{1}, 0, 0, api.ErrRange},
		{"a secret less", []int{1, 1}, []int{1}, 0, 0, api.ErrForm},
		{"a secret more", []int{1, 1}, []int{1, 1, 1}, 0, 0, api.ErrForm},
		{"a secret less before what they are", []int{1, 1}, []int{-1}, 0, 0, api.ErrForm},
		{"a secret less before no tickets", []int{0, 0}, []int{1}, 0, 0, api.ErrForm},
		{"too many secrets", []int{1}, make([]int, 13), 0, 0, api.ErrForm},
		{"a secret below 0", []int{1, 1}, []int{1, -1}, 0, 0, api.ErrRange},
		{"a secret too great", []int{1, 1}, []int{1, great + 1}, 0, 0, api.ErrRange},
		{"a secret before no tickets", []int{0, 0}, []int{1, -1}, 0, 0, api.ErrRange},
		{"nothing", nil, nil, 0, 0, api.ErrShort},
		{"no holders, but a secret", nil, []int{1}, 0, 0, api.ErrForm},
		{"no tickets", make([]int, 12), make([]int, 12), 0, 0, api.ErrShort},
	} {
		if ticket, holder, e := coin.Draw(x.tickets, x.secrets); ticket != x.ticket || holder != x.holder || e != x.e {
			t.Error(x.about, ticket, holder, e)
		}
	}
}
