package float

import (
	"sort"

	"bateria/api"
)

// The ends of what is known.
const (
	low = iota
	high
	bothEnds
)

// truth is a float whose true weights and tops are known.
type truth struct {
	api.Float
	kilos, tops [api.MaxLoads + 1]int // ballast may be one load more
}

// ends are the truth in which each weight and top is the least, and the one in which each is the greatest.
type ends [bothEnds]truth

func endsOf(f api.Float) ends {
	e := ends{low: {Float: f}, high: {Float: f}}
	for i, l := range f.Loads {
		e[low].kilos[i], e[high].kilos[i] = l.Kilos.Lo, l.Kilos.Hi
		e[low].tops[i], e[high].tops[i] = l.Top.Lo, l.Top.Hi
	}
	return e
}

// weight is kilos at a place.
type weight struct{ kilos, at int }

// weights are those of the frame and of all loads.
func (t truth) weights() []weight {
	all := []weight{{t.Kilos, t.Middle}}
	for i, l := range t.Loads {
		all = append(all, weight{t.kilos[i], l.At})
	}
	return all
}

// moment is the sum of weights, times how far each is behind a place.
func moment(place int, weights ...weight) int {
	sum := 0
	for _, w := range weights {
		sum += w.kilos * (w.at - place)
	}
	return sum
}

// onFront is what the front axle carries, times the distance of the axles: a whole number.
func (t truth) onFront() int { return -moment(t.Rear, t.weights()...) }

// onRear is what the rear axle carries, likewise.
func (t truth) onRear() int { return moment(t.Front, t.weights()...) }

func (t truth) total() int {
	sum := 0
	for _, w := range t.weights() {
		sum += w.kilos
	}
	return sum
}

func (t truth) height() int {
	top := t.High
	for i := range t.Loads {
		top = max(top, t.tops[i])
	}
	return top
}

func (t truth) stands() bool { return t.onFront() >= 0 && t.onRear() >= 0 }

// passes says whether the float passes a valid hurdle.
func (t truth) passes(h api.Hurdle) bool {
	switch h.Kind {
	case api.HurdleBend:
		return t.passesBend(h.A, h.B)
	case api.HurdleWire:
		return t.height() <= h.A
	}
	return t.passesBridge(h.A, h.B)
}

// passesBend tries the least radius with which the inner side is clear, since the corner only comes farther out with a greater one.
// It counts in halves of a centimetre, since half of a width is not always a whole number.
func (t truth) passesBend(inner, outer int) bool {
	wider := sort.Search(api.MaxRadius+api.MaxBroad, func(more int) bool {
		return 2*(t.Turn+more)-t.Width >= 2*inner
	})
	beside := 2*(t.Turn+wider) + t.Width
	behind := 2 * max(t.Rear, t.Length-t.Rear)
	return beside*beside+behind*behind <= 4*outer*outer
}

func (t truth) passesBridge(all, axle int) bool {
	most := axle * (t.Rear - t.Front)
	return t.total() <= all && t.onFront() <= most && t.onRear() <= most
}
