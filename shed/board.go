package shed

import (
	"bateria/api"
	"bateria/rows"
)

const maxDigits = 3

// Write returns the board of a shop.
func Write(s api.Shop) (string, api.Errno) {
	if e := Check(s); e != api.OK {
		return "", e
	}
	text := rows.Row("shop", len(s.Jobs))
	for _, w := range s.Workers {
		text += rows.Row("worker", number(w.Weld), number(w.Carve), number(w.Paint))
	}
	for _, j := range s.Jobs {
		text += rows.Row("job", j.Float, j.Skill, j.Days)
	}
	return text + rows.Row("end"), api.OK
}

// number is that by which it is written whether a skill is set.
func number(set bool) int {
	if set {
		return 1
	}
	return 0
}

// Read returns the shop of a board; or an error, and its row or 0.
func Read(text string) (s api.Shop, row int, e api.Errno) {
	if len(text) > api.MaxBoard {
		return api.Shop{}, 0, api.ErrLong
	}
	r := reader{}
	if wrong := rows.Wrong(text, r.take); wrong > 0 {
		return api.Shop{}, wrong, api.ErrForm
	}
	if r.jobs != len(r.shop.Jobs) {
		return api.Shop{}, 1, api.ErrForm
	}
	if e := Check(r.shop); e != api.OK {
		return api.Shop{}, 0, e
	}
	return r.shop, 0, api.OK
}

// reader is what was read of a board so far; jobs is the number of the row "shop".
type reader struct {
	shop api.Shop
	jobs int
}

// take reads the words of a row, and says whether they are as they have to be. Where a worker's row may stand, a job's row may stand too, and where that may stand, so may the row "end".
func (r *reader) take(row int, words []string) bool {
	first, others := words[0], words[1:]
	switch {
	case row == 1:
		return first == "shop" && rows.Numbers(others, maxDigits, &r.jobs)
	case len(r.shop.Jobs) == 0:
		if first == "worker" {
			return r.takeWorker(others)
		}
		fallthrough
	default:
		if first == "job" {
			return r.takeJob(others)
		}
	}
	return first == "end" && len(others) == 0
}

func (r *reader) takeWorker(words []string) bool {
	var weld, carve, paint int
	if !rows.Numbers(words, maxDigits, &weld, &carve, &paint) || max(weld, carve, paint) > 1 {
		return false
	}
	r.shop.Workers = append(r.shop.Workers, api.Worker{Weld: weld == 1, Carve: carve == 1, Paint: paint == 1})
	return true
}

func (r *reader) takeJob(words []string) bool {
	j := api.Job{}
	if !rows.Numbers(words, maxDigits, &j.Float, &j.Skill, &j.Days) {
		return false
	}
	r.shop.Jobs = append(r.shop.Jobs, j)
	return true
}
