package float

import (
	"bateria/api"
	"bateria/rows"
)

const maxDigits = 7

// Write returns the card of a float.
func Write(f api.Float) (string, api.Errno) {
	if e := Check(f); e != api.OK {
		return "", e
	}
	text := rows.Row("float", f.Length, f.Width, f.Front, f.Rear, f.Turn, f.Kilos, f.Middle, f.High)
	for _, l := range f.Loads {
		text += rows.Row("load", l.At, l.Kilos.Lo, l.Kilos.Hi, l.Top.Lo, l.Top.Hi, kindNumber(l.Kind), l.Watts)
	}
	return text + rows.Row("end", len(f.Loads)), api.OK
}

// kindNumber is the number by which a kind is written: each one counts itself and all kinds before it.
func kindNumber(kind int) int {
	number := 0
	switch kind {
	case api.LoadFire:
		number++
		fallthrough
	case api.LoadLamp:
		number++
		fallthrough
	case api.LoadPower:
		number++
		fallthrough
	case api.LoadPlain:
		number++
	}
	return number
}

// Read returns the float of a card; or an error, and its row or 0.
func Read(text string) (f api.Float, row int, e api.Errno) {
	if len(text) > api.MaxCard {
		return api.Float{}, 0, api.ErrLong
	}
	r := reader{}
	if wrong := rows.Wrong(text, r.take); wrong > 0 {
		return api.Float{}, wrong, api.ErrForm
	}
	if e := Check(r.float); e != api.OK {
		return api.Float{}, 0, e
	}
	return r.float, 0, api.OK
}

// reader is what was read of a card so far.
type reader struct{ float api.Float }

// take reads the words of a row, and says whether they are as they have to be.
func (r *reader) take(row int, words []string) bool {
	switch {
	case row == 1:
		return words[0] == "float" && r.takeFrame(words[1:])
	case words[0] == "load":
		return r.takeLoad(words[1:])
	case words[0] == "end":
		loads := 0
		return rows.Numbers(words[1:], maxDigits, &loads) && loads == len(r.float.Loads)
	}
	return false
}

func (r *reader) takeFrame(words []string) bool {
	f := &r.float
	return rows.Numbers(words, maxDigits, &f.Length, &f.Width, &f.Front, &f.Rear, &f.Turn, &f.Kilos, &f.Middle, &f.High)
}

func (r *reader) takeLoad(words []string) bool {
	l := api.Load{}
	if !rows.Numbers(words, maxDigits, &l.At, &l.Kilos.Lo, &l.Kilos.Hi, &l.Top.Lo, &l.Top.Hi, &l.Kind, &l.Watts) {
		return false
	}
	r.float.Loads = append(r.float.Loads, l)
	return true
}
