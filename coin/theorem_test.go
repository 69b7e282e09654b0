package coin_test

import (
	"math/rand/v2"
	"slices"
	"testing"

	"bateria/api"
	"bateria/coin"
	"bateria/shed"
)

func traceOf(t *testing.T, l api.Ledger) [][]int {
	t.Helper()
	trace, e := coin.Trace(l)
	if e != api.OK || len(trace) != len(l.Bills) {
		t.Fatal(l, trace, e)
	}
	return trace
}

func audit(t *testing.T, l api.Ledger, trace [][]int) []api.Flaw {
	t.Helper()
	flaws, e := coin.Audit(l, trace)
	if e != api.OK {
		t.Fatal(l, trace, flaws, e)
	}
	return flaws
}

func spent(t *testing.T, l api.Ledger, fund int) api.Span {
	t.Helper()
	s, e := coin.Spent(l, fund)
	if e != api.OK {
		t.Fatal(l, fund, s, e)
	}
	return s
}

func balance(t *testing.T, l api.Ledger, day int) int {
	t.Helper()
	n, e := coin.Balance(l, day)
	if e != api.OK {
		t.Fatal(l, day, n, e)
	}
	return n
}

// isPaid says whether there is a trace, as Trace and Short say.
func isPaid(t *testing.T, l api.Ledger) bool {
	t.Helper()
	_, e := coin.Trace(l)
	proof, e2 := coin.Short(l)
	isPaid := e == api.OK && e2 == api.ErrMissing
	if !isPaid && (e != api.ErrShort || e2 != api.OK || len(proof) == 0) {
		t.Fatal(l, e, proof, e2)
	}
	return isPaid
}

// P9.1 and P9.7: all traces of small ledgers are looked at, and none comes behind that of Trace.
func TestAllTraces(t *testing.T) {
	short, several := 0, 0
	for _, l := range slices.Concat(ledgers(1, 10000, tiny), paidLedgers(2, 20000, tiny), []api.Ledger{chain()}) {
		traces := tracesOf(l)
		trace, e := coin.Trace(l)
		if len(traces) == 0 {
			if e != api.ErrShort || len(trace) > 0 {
				t.Error(l, trace, e)
			}
			short++
			continue
		}
		if last := traces[len(traces)-1]; e != api.OK || !sameTrace(trace, last) {
			t.Error(l, trace, e, last)
		}
		if flaws := audit(t, l, trace); len(flaws) > 0 {
			t.Error(l, trace, flaws)
		}
		if len(traces) > 5 {
			several++
		}
	}
	if short < 500 || several < 500 {
		t.Error("few ledgers of a kind:", short, several)
	}
}

// behind is what is still to be paid if a trace is given up to a number: the funds have less, and only those behind the number can still pay its bill, for which there is a use of its own.
func behind(l api.Ledger, trace [][]int, number, fund int) api.Ledger {
	rest := copyOf(l)
	rest.Bills = rest.Bills[number:]
	for i := range number {
		for k := range rest.Funds {
			rest.Funds[k].Amount -= trace[i][k]
		}
	}
	for k := range rest.Funds {
		if k <= fund {
			rest.Funds[k].Amount -= trace[number][k]
			rest.Bills[0].Amount -= trace[number][k]
		}
		if k > fund && pays(l.Funds[k], l.Bills[number]) {
			rest.Funds[k].Uses = append(rest.Funds[k].Uses, 8)
		}
	}
	rest.Bills[0].Use = 8
	return rest
}

// P9.1 and P9.7: no number of a trace of a large ledger can be greater by a coin, if those before it stay: no flow pays the rest then.
func TestLastTrace(t *testing.T) {
	looked := 0
	for _, l := range slices.Concat(paidLedgers(3, 500, full), paidLedgers(4, 500, wide)) {
		trace := traceOf(t, l)
		if flaws := audit(t, l, trace); len(flaws) > 0 || !isTrace(l, trace) {
			t.Error(l, trace, flaws)
		}
		for i, row := range trace {
			for k, coins := range row {
				if !pays(l.Funds[k], l.Bills[i]) {
					continue
				}
				rest := behind(l, trace, i, k)
				if !isPayable(rest) {
					t.Error("the rest of a trace:", l, trace, i, k)
				}
				more := copyOfTrace(trace)
				more[i][k] = coins + 1
				rest = behind(l, more, i, k)
				if rest.Bills[0].Amount >= 0 && rest.Funds[k].Amount >= 0 && isPayable(rest) {
					t.Error(l, trace, i, k)
				}
				looked++
			}
		}
	}
	if looked < 5000 {
		t.Error("few numbers:", looked)
	}
}

// P9.2 and P9.8: there are bills that prove just if there is no trace; all sets are looked at, and no fewer bills prove it, nor as many that come before.
func TestAllSets(t *testing.T) {
	sizes := map[int]int{}
	for _, l := range slices.Concat(ledgers(5, 1000, tiny), ledgers(6, 6000, wide), ledgers(7, 1000, full), paidLedgers(8, 500, wide)) {
		want := proofOf(l)
		proof, e := coin.Short(l)
		if !slices.Equal(proof, want) || (e == api.OK) != (len(want) > 0) || e != api.OK && e != api.ErrMissing {
			t.Error(l, proof, e, want)
		}
		if isPayable(l) != isPaid(t, l) || isPaid(t, l) != (len(want) == 0) {
			t.Error(l, proof, e, isPayable(l))
		}
		sizes[len(want)]++
	}
	if sizes[0] < 500 || sizes[1] < 500 || sizes[2] < 200 || sizes[3] < 20 {
		t.Error("few proofs of a size:", sizes)
	}
}

// P9.3 and P9.9: a trace with one coin more or less has a flaw.
func TestOneCoin(t *testing.T) {
	looked := 0
	for _, l := range slices.Concat(paidLedgers(9, 200, wide), paidLedgers(10, 100, full)) {
		trace := traceOf(t, l)
		for i, row := range trace {
			for k, coins := range row {
				for _, n := range []int{coins - 1, coins + 1} {
					if n < 0 || n > api.MaxCoins {
						continue
					}
					other := copyOfTrace(trace)
					other[i][k] = n
					flaws := audit(t, l, other)
					if !slices.Contains(flaws, api.Flaw{Kind: api.FlawBill, Bill: i}) || !slices.Equal(flaws, flawsOf(l, other)) {
						t.Error(l, other, flaws)
					}
					looked++
				}
			}
		}
	}
	if looked < 5000 {
		t.Error("few coins:", looked)
	}
}

// P9.3 and P9.9: what has no flaw is a trace, and each trace has none; the flaws are as said.
func TestAnyNumbers(t *testing.T) {
	pick := rand.New(rand.NewPCG(11, 9))
	found, kinds := map[bool]int{}, map[int]int{}
	for _, l := range slices.Concat(paidLedgers(12, 4000, tiny), paidLedgers(13, 4000, wide)) {
		trace := traceOf(t, l)
		for range pick.IntN(6) { // moves coins to another bill, or to another fund
			if len(trace) == 0 {
				break
			}
			i, j, k, m := pick.IntN(len(trace)), pick.IntN(len(trace)), pick.IntN(len(l.Funds)), pick.IntN(len(l.Funds))
			if pick.IntN(4) > 0 {
				j = i
			}
			coins := pick.IntN(trace[i][k] + 1)
			trace[i][k] -= coins
			trace[j][m] += coins
		}
		flaws := audit(t, l, trace)
		if !slices.Equal(flaws, flawsOf(l, trace)) || isTrace(l, trace) != (len(flaws) == 0) {
			t.Error(l, trace, flaws)
		}
		found[len(flaws) == 0]++
		for _, f := range flaws {
			kinds[f.Kind]++
		}
	}
	if found[true] < 500 || found[false] < 500 || kinds[1] < 200 || kinds[2] < 200 || kinds[3] < 200 {
		t.Error("few numbers of a kind:", found, kinds)
	}
}

// P9.4 and P9.10: all traces of small ledgers are looked at: each takes a number within Spent from a fund, and both ends belong to a trace.
func TestAllSpent(t *testing.T) {
	wide := 0
	for _, l := range append(paidLedgers(14, 10000, tiny), chain()) {
		for k := range l.Funds {
			want := span(most, 0)
			for _, trace := range tracesOf(l) {
				coins := column(trace, k)
				want = span(min(want.Lo, coins), max(want.Hi, coins))
			}
			if s := spent(t, l, k); s != want {
				t.Error(l, k, s, want)
			}
			if want.Hi > want.Lo+1 && want.Lo > 0 {
				wide++
			}
		}
	}
	if wide < 200 {
		t.Error("few wide spans:", wide)
	}
}

// P9.4 and P9.10: a flow pays all bills of a large ledger if a fund has as little as is spent at least, or if all others give as little as is left for them if as much as can be is spent, and none does if they have a coin less.
func TestLargeSpent(t *testing.T) {
	inner := 0
	for _, l := range slices.Concat(paidLedgers(15, 400, full), paidLedgers(16, 600, wide)) {
		sum := billed(l)
		for k := range l.Funds {
			s := spent(t, l, k)
			least := copyOf(l)
			least.Funds[k].Amount = s.Lo
			if !isPayable(least) {
				t.Error("too low:", l, k, s)
			}
			least.Funds[k].Amount--
			if s.Lo > 0 && isPayable(least) {
				t.Error("not low enough:", l, k, s)
			}
			if netOf(l, k, sum-s.Hi).flow() != sum {
				t.Error("too high:", l, k, s)
			}
			if sum > s.Hi && netOf(l, k, sum-s.Hi-1).flow() == sum {
				t.Error("not high enough:", l, k, s)
			}
			if 0 < s.Lo && s.Lo < s.Hi && s.Hi < l.Funds[k].Amount {
				inner++
			}
		}
	}
	if inner < 50 {
		t.Error("few inner spans:", inner)
	}
}

// richer are ledgers with more money, more uses, more days, a fund more, or a bill less.
func richer(pick *rand.Rand, l api.Ledger) []api.Ledger {
	var list []api.Ledger
	for k := range l.Funds {
		for _, change := range []func(f *api.Fund){
			func(f *api.Fund) { f.Amount += pick.IntN(api.MaxCoins - f.Amount + 1) },
			func(f *api.Fund) { f.Uses = []int{0, 1, 2, 3, 4, 5, 6, 7} },
			func(f *api.Fund) { f.Day = pick.IntN(f.Day + 1) },
			func(f *api.Fund) { f.Until += pick.IntN(api.MaxDate - f.Until + 1) },
		} {
			more := copyOf(l)
			change(&more.Funds[k])
			list = append(list, more)
		}
	}
	if len(l.Funds) < api.MaxFunds {
		more := copyOf(l)
		more.Funds = slices.Insert(more.Funds, pick.IntN(len(l.Funds)+1), anyFund(pick, full))
		list = append(list, more)
	}
	for i, b := range l.Bills {
		less := copyOf(l)
		less.Bills = slices.Delete(less.Bills, i, i+1)
		cheaper := copyOf(l)
		cheaper.Bills[i].Amount = pick.IntN(b.Amount + 1)
		list = append(list, less, cheaper)
	}
	return list
}

// P9.11: with more money, more uses or more days, a ledger that has a trace keeps one, and with a bill less, too.
func TestMore(t *testing.T) {
	pick := rand.New(rand.NewPCG(17, 9))
	looked, helped := 0, 0
	for _, l := range slices.Concat(ledgers(18, 300, tiny), ledgers(19, 300, wide), paidLedgers(20, 150, wide), paidLedgers(21, 150, full)) {
		before := isPaid(t, l)
		for _, more := range richer(pick, l) {
			after := isPaid(t, more)
			switch {
			case before && !after:
				t.Error(l, more)
			case before:
				looked++
			case after:
				helped++
			}
		}
	}
	if looked < 3000 || helped < 300 {
		t.Error("few ledgers of a kind:", looked, helped)
	}
}

// P9.4 and P9.12: a balance changes by what comes, and what is paid, on this day alone; if a ledger has a trace, it is never below 0.
func TestBalances(t *testing.T) {
	below := 0
	for _, l := range slices.Concat(ledgers(22, 300, wide), ledgers(23, 30, full), paidLedgers(24, 300, wide), paidLedgers(25, 30, full)) {
		has, sum := isPaid(t, l), 0
		for day := range api.MaxDate + 1 {
			sum += movesOf(l, day)
			n := balance(t, l, day)
			if n != sum || has && n < 0 {
				t.Error(l, day, n, sum, has)
			}
			if n < 0 {
				below++
			}
		}
	}
	if below < 1000 {
		t.Error("few balances below 0:", below)
	}
}

func anyTickets(pick *rand.Rand, most int) []int {
	for {
		var l []int
		for range 1 + pick.IntN(12) {
			l = append(l, max(0, pick.IntN(2*most+1)-most))
		}
		if total(l) > 0 {
			return l
		}
	}
}

func anySecrets(pick *rand.Rand, holders int) []int {
	var l []int
	for range holders {
		l = append(l, pick.IntN(api.MaxSecret+1))
	}
	return l
}

// P9.5 and P9.13: whatever all other secrets are, each ticket wins for just one of as many secrets of one holder, in a row, as there are tickets; and who holds it has it.
func TestFair(t *testing.T) {
	pick := rand.New(rand.NewPCG(26, 9))
	for range 200 {
		tickets := anyTickets(pick, 1+pick.IntN(20))
		secrets := anySecrets(pick, len(tickets))
		holders := holdersOf(tickets)
		one := pick.IntN(len(tickets))
		first := pick.IntN(api.MaxSecret - len(holders) + 2)
		wins := make([]int, len(holders))
		for i := range holders {
			secrets[one] = first + i
			ticket, holder, e := coin.Draw(tickets, secrets)
			if e != api.OK || ticket < 0 || ticket >= len(holders) || holder != holders[ticket] || (total(secrets)-ticket)%len(holders) != 0 {
				t.Fatal(tickets, secrets, ticket, holder, e)
			}
			wins[ticket]++
		}
		if slices.Min(wins) != 1 || slices.Max(wins) != 1 {
			t.Error(tickets, secrets, wins)
		}
	}
}

// P9.5: raffles of any size.
func TestDraws(t *testing.T) {
	pick := rand.New(rand.NewPCG(27, 9))
	for range 2000 {
		tickets := anyTickets(pick, api.MaxTickets)
		secrets := anySecrets(pick, len(tickets))
		holders := holdersOf(tickets)
		ticket, holder, e := coin.Draw(tickets, secrets)
		if e != api.OK || ticket != total(secrets)%len(holders) || holder != holders[ticket] {
			t.Error(tickets, secrets, ticket, holder, e)
		}
	}
}

// wages are the bills for the jobs of a plan, each on the day on which it has ended, and the grant that is just enough.
func wages(pick *rand.Rand, s api.Shop, plan []api.Shift, days int) api.Ledger {
	grant := fund(0, days, 0)
	l := api.Ledger{}
	for i, j := range s.Jobs {
		b := bill(plan[i].Day+j.Days, j.Skill, j.Days*(1+pick.IntN(100)))
		l.Bills = append(l.Bills, b)
		grant.Amount += b.Amount
		grant.Uses = append(grant.Uses, j.Skill)
	}
	slices.Sort(grant.Uses)
	grant.Uses = slices.Compact(grant.Uses)
	l.Funds = []api.Fund{grant}
	return l
}

// T4: what the jobs of the best plan cost is paid by a grant that is just enough, and by none that is a coin, or a day, less.
func TestWages(t *testing.T) {
	pick := rand.New(rand.NewPCG(28, 9))
	for range 500 {
		s := api.Shop{Workers: slices.Repeat([]api.Worker{{Weld: true, Carve: true, Paint: true}}, 1+pick.IntN(3))}
		for range 1 + pick.IntN(api.MaxJobs) {
			s.Jobs = append(s.Jobs, api.Job{Float: pick.IntN(3), Skill: 1 + pick.IntN(3), Days: 1 + pick.IntN(30)})
		}
		plan, days, e := shed.Best(s)
		if e != api.OK {
			t.Fatal(s, e)
		}
		just := wages(pick, s, plan, days)
		if sum := billed(just); !isPaid(t, just) || spent(t, just, 0) != span(sum, sum) || balance(t, just, days) != 0 {
			t.Error(s, plan, just)
		}
		for _, change := range []func(f *api.Fund){
			func(f *api.Fund) { f.Amount-- },
			func(f *api.Fund) { f.Until-- },
			func(f *api.Fund) { f.Uses = f.Uses[1:] },
		} {
			less := copyOf(just)
			change(&less.Funds[0])
			if isPaid(t, less) {
				t.Error(s, plan, less)
			}
		}
	}
}
