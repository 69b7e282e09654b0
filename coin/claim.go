package coin

import (
	"slices"

	"bateria/api"
)

// purse is how many coins there are of each fund. It is an array, so that a purse from which something is taken is a copy with a change.
type purse [api.MaxFunds]int

func purseOf(l api.Ledger) purse {
	p := purse{}
	for fund, f := range l.Funds {
		p[fund] = f.Amount
	}
	return p
}

func (p purse) of(fund int) int { return p[fund] }

// with is the purse with another number of coins of a fund.
func (p purse) with(fund, coins int) purse {
	p[fund] = coins
	return p
}

// canPay says whether a fund can pay a bill.
func canPay(f api.Fund, b api.Bill) bool {
	return within(b.Day, f.Day, f.Until) && usesOf(f).has(b.Use)
}

func usesOf(f api.Fund) set {
	uses := set(0)
	each(f.Uses, uses.add)
	return uses
}

func each(numbers []int, do func(int)) {
	for _, n := range numbers {
		do(n)
	}
}

// claim is the amount of a bill, and the funds that can pay it.
type claim struct {
	amount int
	payers set
}

// claims are those of bills, one after the other.
type claims []claim

func claimsOf(l api.Ledger) claims {
	var c claims
	for _, b := range l.Bills {
		payers := set(0)
		for fund, f := range l.Funds {
			if canPay(f, b) {
				payers.add(fund)
			}
		}
		c = append(c, claim{b.Amount, payers})
	}
	return c
}

func (c claims) amount(bill int) int { return c[bill].amount }

// payable is the amount of all bills that a fund can pay. The fund can pay all of that, as far as its coins suffice, and all bills can still be paid, if they can be at all: whatever others pay instead, they leave to it.
func (c claims) payable(fund int) int {
	return sum(slices.Values(c), func(x claim) int {
		if x.payers.has(fund) {
			return x.amount
		}
		return 0
	})
}

// lack is by how much a set of bills is more than what can pay at least one of them.
func (c claims) lack(s set, left purse) int {
	payers := set(0)
	for bill := range s.numbers() {
		payers |= c[bill].payers
	}
	return sum(s.numbers(), c.amount) - sum(payers.numbers(), left.of)
}

// missing is how many coins cannot be paid if as many as can be are. That is the most that a set of bills lacks, since as much flows from funds to bills as the narrowest cut between them lets through.
func (c claims) missing(left purse) int {
	most := 0
	for size := range len(c) + 1 {
		for s := range setsOf(size, len(c)) {
			most = max(most, c.lack(s, left))
		}
	}
	return most
}

// proof is the first one of the smallest sets of bills that lack something; it is empty if there is none.
func (c claims) proof(left purse) set {
	proof := set(0)
search:
	for size := range len(c) + 1 {
		for s := range setsOf(size, len(c)) {
			if c.lack(s, left) > 0 {
				proof = s
				break search
			}
		}
	}
	return proof
}

// payFirst pays the first bill, if all can be paid: it returns what this gets from each fund, and what is left then. From one fund after the other it gets as much as can be, but not what those behind it need of this fund, since all others together do not suffice for them.
func (c claims) payFirst(left purse) (paid, rest purse) {
	due, behind := c[0].amount, c[1:]
	for fund := range c[0].payers.numbers() {
		needed := behind.missing(left.with(fund, 0))
		coins := min(due, left[fund]-needed)
		due -= coins
		paid = paid.with(fund, coins)
		left = left.with(fund, left[fund]-coins)
	}
	return paid, left
}
