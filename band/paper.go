package band

import (
	"bateria/api"
	"bateria/rows"
)

const maxDigits = 7

// Write returns the paper of bands.
func Write(c api.City, l []api.Band) (string, api.Errno) {
	if e := CheckBands(c, l); e != api.OK {
		return "", e
	}
	text := ""
	for _, b := range l {
		text += rows.Row("band", append([]int{b.First, b.Start.Lo, b.Start.Hi, b.Stay, b.People}, b.Path...)...)
	}
	return text + rows.Row("end", len(l)), api.OK
}

// Read returns the bands of a paper; or an error, and its row or 0.
func Read(c api.City, text string) (l []api.Band, row int, e api.Errno) {
	if e := Check(c); e != api.OK {
		return nil, 0, e
	}
	if len(text) > api.MaxPermit {
		return nil, 0, api.ErrLong
	}
	r := reader{}
	if wrong := rows.Wrong(text, r.take); wrong > 0 {
		return nil, wrong, api.ErrForm
	}
	if e := CheckBands(c, r.bands); e != api.OK {
		return nil, 0, e
	}
	return r.bands, 0, api.OK
}

// reader is what was read of a paper so far.
type reader struct{ bands []api.Band }

// take reads the words of a row, and says whether they are as they have to be.
func (r *reader) take(_ int, words []string) bool {
	switch first, others := words[0], words[1:]; first {
	case "band":
		return r.takeBand(others)
	case "end":
		bands := 0
		return rows.Numbers(others, maxDigits, &bands) && bands == len(r.bands)
	}
	return false
}

func (r *reader) takeBand(words []string) bool {
	numbers, ok := rows.List(words, maxDigits)
	if !ok || len(numbers) < 5 {
		return false
	}
	r.bands = append(r.bands, api.Band{
		First:  numbers[0],
		Start:  api.Span{Lo: numbers[1], Hi: numbers[2]},
		Stay:   numbers[3],
		People: numbers[4],
		Path:   numbers[5:],
	})
	return true
}
