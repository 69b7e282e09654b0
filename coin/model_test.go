package coin_test

// The model follows the section Terms of the chapter word by word: it goes through all traces, and all sets of bills, of small ledgers. Large ledgers are held against flows from funds to bills, which are made greater path by path. The other tests hold the package against it.

import (
	"cmp"
	"math/rand/v2"
	"slices"

	"bateria/api"
)

func span(low, high int) api.Span { return api.Span{Lo: low, Hi: high} }

func fund(day, until, amount int, uses ...int) api.Fund {
	return api.Fund{Day: day, Until: until, Amount: amount, Uses: uses}
}

func bill(day, use, amount int) api.Bill { return api.Bill{Day: day, Use: use, Amount: amount} }

// carnival is the ledger L of the chapter's examples.
func carnival() api.Ledger {
	return api.Ledger{
		Funds: []api.Fund{fund(0, 30, 1000, 0, 1), fund(5, 20, 500, 1), fund(0, 40, 300, 0, 1, 2)},
		Bills: []api.Bill{bill(10, 1, 600), bill(15, 0, 900), bill(35, 2, 200)},
	}
}

// carnivalTrace is its trace of the chapter's examples.
func carnivalTrace() [][]int { return [][]int{{200, 400, 0}, {800, 0, 100}, {0, 0, 200}} }

// changed is carnival after a change.
func changed(change func(l *api.Ledger)) api.Ledger {
	l := carnival()
	change(&l)
	return l
}

// dear is carnival with another amount of the bill 1.
func dear(amount int) api.Ledger {
	return changed(func(l *api.Ledger) { l.Bills[1].Amount = amount })
}

// chain is a ledger in which the first bill has to leave the first fund to the second one, and this the second fund to the third one.
func chain() api.Ledger {
	return api.Ledger{
		Funds: []api.Fund{fund(0, 9, 5, 0, 1), fund(0, 9, 5, 1, 2), fund(0, 9, 5, 0)},
		Bills: []api.Bill{bill(0, 0, 5), bill(0, 1, 5), bill(0, 2, 5)},
	}
}

// pays says whether a fund can pay a bill.
func pays(f api.Fund, b api.Bill) bool {
	return f.Day <= b.Day && b.Day <= f.Until && slices.Contains(f.Uses, b.Use)
}

func total(numbers []int) int {
	sum := 0
	for _, n := range numbers {
		sum += n
	}
	return sum
}

// column is what a trace takes from a fund.
func column(trace [][]int, fund int) int {
	sum := 0
	for _, row := range trace {
		sum += row[fund]
	}
	return sum
}

func billed(l api.Ledger) int {
	sum := 0
	for _, b := range l.Bills {
		sum += b.Amount
	}
	return sum
}

// isTrace says whether numbers are a trace, coin by coin.
func isTrace(l api.Ledger, trace [][]int) bool {
	for i, b := range l.Bills {
		if total(trace[i]) != b.Amount {
			return false
		}
		for k, f := range l.Funds {
			if trace[i][k] < 0 || trace[i][k] > 0 && !pays(f, b) {
				return false
			}
		}
	}
	for k, f := range l.Funds {
		if column(trace, k) > f.Amount {
			return false
		}
	}
	return true
}

// rowsOf are all rows in which so many funds give together so many coins, in lexicographic order.
func rowsOf(funds, coins int) [][]int {
	if funds == 0 {
		if coins > 0 {
			return nil
		}
		return [][]int{nil}
	}
	var list [][]int
	for first := range coins + 1 {
		for _, rest := range rowsOf(funds-1, coins-first) {
			list = append(list, append([]int{first}, rest...))
		}
	}
	return list
}

// tracesOf are all traces, in lexicographic order.
func tracesOf(l api.Ledger) [][][]int {
	list := [][][]int{nil}
	for i, b := range l.Bills {
		begun := api.Ledger{Funds: l.Funds, Bills: l.Bills[:i+1]}
		var more [][][]int
		for _, before := range list {
			for _, row := range rowsOf(len(l.Funds), b.Amount) {
				if trace := append(slices.Clone(before), row); isTrace(begun, trace) {
					more = append(more, trace)
				}
			}
		}
		list = more
	}
	return list
}

// subsets are all sets of so many bills, the smaller ones first, those of one size in lexicographic order.
func subsets(bills int) [][]int {
	var list [][]int
	for bits := range 1 << bills {
		var set []int
		for i := range bills {
			if bits>>i&1 == 1 {
				set = append(set, i)
			}
		}
		list = append(list, set)
	}
	slices.SortFunc(list, func(a, b []int) int { return cmp.Or(len(a)-len(b), slices.Compare(a, b)) })
	return list
}

// proves says whether the amounts of bills are together more than those of all funds that can pay at least one of them.
func proves(l api.Ledger, set []int) bool {
	need, have := 0, 0
	for _, i := range set {
		need += l.Bills[i].Amount
	}
	for _, f := range l.Funds {
		if slices.ContainsFunc(set, func(i int) bool { return pays(f, l.Bills[i]) }) {
			have += f.Amount
		}
	}
	return need > have
}

// proofOf is the first one of the fewest bills that prove, or nothing.
func proofOf(l api.Ledger) []int {
	for _, set := range subsets(len(l.Bills)) {
		if proves(l, set) {
			return set
		}
	}
	return nil
}

// flawsOf are the flaws of numbers, as the contract says them.
func flawsOf(l api.Ledger, trace [][]int) []api.Flaw {
	var flaws []api.Flaw
	for i, b := range l.Bills {
		if total(trace[i]) != b.Amount {
			flaws = append(flaws, api.Flaw{Kind: 1, Bill: i})
		}
		for k, f := range l.Funds {
			if trace[i][k] > 0 && !pays(f, b) {
				flaws = append(flaws, api.Flaw{Kind: 2, Bill: i, Fund: k})
			}
		}
	}
	for k, f := range l.Funds {
		if column(trace, k) > f.Amount {
			flaws = append(flaws, api.Flaw{Kind: 3, Fund: k})
		}
	}
	return flaws
}

// movesOf is by how much the balance changes on a day.
func movesOf(l api.Ledger, day int) int {
	change := 0
	for _, f := range l.Funds {
		if f.Day == day {
			change += f.Amount
		}
	}
	for _, b := range l.Bills {
		if b.Day == day {
			change -= b.Amount
		}
	}
	return change
}

// holdersOf has the holder of each ticket.
func holdersOf(tickets []int) []int {
	var l []int
	for holder, many := range tickets {
		l = append(l, slices.Repeat([]int{holder}, many)...)
	}
	return l
}

// net says how many coins can still go from one knot to another one, from the first knot on to the last one.
type net [][]int

// netOf is a net from a beginning over the funds and the bills to an end: all coins of a chosen fund, and together so many of all others.
func netOf(l api.Ledger, chosen, others int) net {
	knots := len(l.Funds) + len(l.Bills) + 3
	n := make(net, knots)
	for i := range n {
		n[i] = make([]int, knots)
	}
	n[0][1] = others
	for k, f := range l.Funds {
		from := 1
		if k == chosen {
			from = 0
		}
		n[from][2+k] = f.Amount
		for i, b := range l.Bills {
			if pays(f, b) {
				n[2+k][2+len(l.Funds)+i] = b.Amount
			}
		}
	}
	for i, b := range l.Bills {
		n[2+len(l.Funds)+i][knots-1] = b.Amount
	}
	return n
}

// path is one of the shortest paths from the first knot to the last one, along which something can still go; nothing if there is none.
func (n net) path() []int {
	paths := map[int][]int{0: {0}}
	for next := []int{0}; len(next) > 0; next = next[1:] {
		for to, coins := range n[next[0]] {
			if coins > 0 && paths[to] == nil {
				paths[to] = append(slices.Clone(paths[next[0]]), to)
				next = append(next, to)
			}
		}
	}
	return paths[len(n)-1]
}

// flow is how many coins can go, and lets them go.
func (n net) flow() int {
	sum := 0
	for path := n.path(); path != nil; path = n.path() {
		coins := n[path[0]][path[1]]
		for i := range path[1:] {
			coins = min(coins, n[path[i]][path[i+1]])
		}
		for i := range path[1:] {
			n[path[i]][path[i+1]] -= coins
			n[path[i+1]][path[i]] += coins
		}
		sum += coins
	}
	return sum
}

// most is more coins than there can be.
const most = 100 * api.MaxCoins

// isPayable says whether a flow pays all bills.
func isPayable(l api.Ledger) bool { return netOf(l, -1, most).flow() == billed(l) }

// size is how large a ledger may be.
type size struct{ funds, bills, days, uses, coins int }

// All traces of tiny ledgers can be looked at; large ones have all sums that may be.
var tiny, wide, full = size{3, 3, 2, 2, 6}, size{8, 8, 5, 4, 30}, size{8, 8, 3651, 8, api.MaxCoins + 1}

func anyUses(pick *rand.Rand, uses int) []int {
	var l []int
	for use := range uses {
		if pick.IntN(3) > 0 {
			l = append(l, use)
		}
	}
	return l
}

func anyFund(pick *rand.Rand, z size) api.Fund {
	day, until := min(pick.IntN(z.days), pick.IntN(z.days)), max(pick.IntN(z.days), pick.IntN(z.days))
	return api.Fund{Day: min(day, until), Until: max(day, until), Amount: pick.IntN(z.coins), Uses: anyUses(pick, z.uses)}
}

func anyLedger(pick *rand.Rand, z size) api.Ledger {
	l := api.Ledger{}
	for range max(pick.IntN(z.funds+1), pick.IntN(z.funds+1)) {
		l.Funds = append(l.Funds, anyFund(pick, z))
	}
	for range max(pick.IntN(z.bills+1), pick.IntN(z.bills+1)) {
		l.Bills = append(l.Bills, bill(pick.IntN(z.days), pick.IntN(z.uses), pick.IntN(z.coins)))
	}
	return l
}

// paid is a ledger with at least one fund, whose bills are just what some of the coins of its funds can pay.
func paid(pick *rand.Rand, z size) api.Ledger {
	for {
		l := anyLedger(pick, z)
		for i := range l.Bills {
			l.Bills[i].Amount = 0
		}
		for _, f := range l.Funds {
			left := f.Amount
			for i, b := range l.Bills {
				if pays(f, b) && pick.IntN(3) > 0 {
					coins := min(pick.IntN(left+1), api.MaxCoins-b.Amount)
					l.Bills[i].Amount += coins
					left -= coins
				}
			}
		}
		if len(l.Funds) > 0 {
			return l
		}
	}
}

// listOf is so many ledgers, one made after the other.
func listOf(seed uint64, many int, z size, next func(*rand.Rand, size) api.Ledger) []api.Ledger {
	pick := rand.New(rand.NewPCG(seed, 9))
	var list []api.Ledger
	for range many {
		list = append(list, next(pick, z))
	}
	return list
}

func ledgers(seed uint64, many int, z size) []api.Ledger { return listOf(seed, many, z, anyLedger) }

// paidLedgers have a trace each, mostly with few coins to spare.
func paidLedgers(seed uint64, many int, z size) []api.Ledger { return listOf(seed, many, z, paid) }

func copyOf(l api.Ledger) api.Ledger {
	l.Funds, l.Bills = slices.Clone(l.Funds), slices.Clone(l.Bills)
	for k := range l.Funds {
		l.Funds[k].Uses = slices.Clone(l.Funds[k].Uses)
	}
	return l
}

func copyOfTrace(trace [][]int) [][]int {
	trace = slices.Clone(trace)
	for i := range trace {
		trace[i] = slices.Clone(trace[i])
	}
	return trace
}

func sameTrace(a, b [][]int) bool { return slices.EqualFunc(a, b, slices.Equal[[]int]) }

func sameFund(a, b api.Fund) bool {
	return a.Day == b.Day && a.Until == b.Until && a.Amount == b.Amount && slices.Equal(a.Uses, b.Uses)
}

func sameLedger(a, b api.Ledger) bool {
	return slices.EqualFunc(a.Funds, b.Funds, sameFund) && slices.Equal(a.Bills, b.Bills)
}
