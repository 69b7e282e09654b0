package coin

import (
	"bateria/api"
	"bateria/rows"
)

const maxDigits = 10

// Write returns the book of a ledger.
func Write(l api.Ledger) (string, api.Errno) {
	if e := Check(l); e != api.OK {
		return "", e
	}
	text := ""
	for _, f := range l.Funds {
		text += rows.Row("fund", append([]int{f.Day, f.Until, f.Amount}, f.Uses...)...)
	}
	for _, b := range l.Bills {
		text += rows.Row("bill", b.Day, b.Use, b.Amount)
	}
	return text + rows.Row("end", len(l.Bills)), api.OK
}

// Read returns the ledger of a book; or an error, and its row or 0.
func Read(text string) (l api.Ledger, row int, e api.Errno) {
	if len(text) > api.MaxLedger {
		return api.Ledger{}, 0, api.ErrLong
	}
	r := reader{}
	if wrong := rows.Wrong(text, r.take); wrong > 0 {
		return api.Ledger{}, wrong, api.ErrForm
	}
	if e := Check(r.ledger); e != api.OK {
		return api.Ledger{}, 0, e
	}
	return r.ledger, 0, api.OK
}

// reader is what was read of a book so far.
type reader struct{ ledger api.Ledger }

// take reads the words of a row, and says whether they are as they have to be.
func (r *reader) take(_ int, words []string) bool {
	switch first, others := words[0], words[1:]; first {
	case "fund":
		return r.takeFund(others)
	case "bill":
		return r.takeBill(others)
	case "end":
		bills := 0
		return rows.Numbers(others, maxDigits, &bills) && bills == len(r.ledger.Bills)
	}
	return false
}

func (r *reader) takeFund(words []string) bool {
	numbers, ok := rows.List(words, maxDigits)
	if !ok || len(numbers) < 3 || len(r.ledger.Bills) > 0 {
		return false
	}
	r.ledger.Funds = append(r.ledger.Funds, api.Fund{Day: numbers[0], Until: numbers[1], Amount: numbers[2], Uses: numbers[3:]})
	return true
}

func (r *reader) takeBill(words []string) bool {
	b := api.Bill{}
	if !rows.Numbers(words, maxDigits, &b.Day, &b.Use, &b.Amount) {
		return false
	}
	r.ledger.Bills = append(r.ledger.Bills, b)
	return true
}
