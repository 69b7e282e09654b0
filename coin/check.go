package coin

import (
	"slices"

	"bateria/api"
)

// Check returns the first error of a ledger.
func Check(l api.Ledger) api.Errno {
	if len(l.Funds) > api.MaxFunds {
		return api.ErrFull
	}
	for _, f := range l.Funds {
		if e := checkFund(f); e != api.OK {
			return e
		}
	}
	if len(l.Bills) > api.MaxBills {
		return api.ErrFull
	}
	for _, b := range l.Bills {
		if !isDate(b.Day) || !isUse(b.Use) || !isAmount(b.Amount) {
			return api.ErrRange
		}
	}
	return api.OK
}

func checkFund(f api.Fund) api.Errno {
	switch {
	case !isDate(f.Day) || !isDate(f.Until):
		return api.ErrRange
	case f.Day > f.Until:
		return api.ErrOrder
	case !isAmount(f.Amount):
		return api.ErrRange
	case len(f.Uses) > api.MaxUses:
		return api.ErrFull
	}
	return checkUses(f.Uses)
}

func checkUses(uses []int) api.Errno {
	for i, use := range uses {
		switch {
		case !isUse(use):
			return api.ErrRange
		case i > 0 && use <= uses[i-1]:
			return api.ErrOrder
		}
	}
	return api.OK
}

// checkTrace returns the first error of the numbers of a trace for a valid ledger.
func checkTrace(l api.Ledger, trace [][]int) api.Errno {
	isWrong := func(row []int) bool { return len(row) != len(l.Funds) }
	isOut := func(row []int) bool {
		return slices.ContainsFunc(row, func(coins int) bool { return !isAmount(coins) })
	}
	switch {
	case len(trace) != len(l.Bills) || slices.ContainsFunc(trace, isWrong):
		return api.ErrForm
	case slices.ContainsFunc(trace, isOut):
		return api.ErrRange
	}
	return api.OK
}

func isDate(n int) bool { return within(n, 0, api.MaxDate) }

func isUse(n int) bool { return within(n, 0, api.MaxUses-1) }

func isAmount(n int) bool { return within(n, 0, api.MaxCoins) }

func within(n, least, most int) bool { return n >= least && n <= most }
