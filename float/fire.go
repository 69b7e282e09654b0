package float

import (
	"iter"

	"bateria/api"
)

// Fire returns the generators and fires that are too near to each other, and the watts that are spare.
func Fire(f api.Float, apart int) (near []api.Near, spare int, e api.Errno) {
	if e := Check(f); e != api.OK {
		return nil, 0, e
	}
	if !within(apart, 0, api.MaxLong) {
		return nil, 0, api.ErrRange
	}
	for power, generator := range ofKind(f.Loads, api.LoadPower) {
		spare += generator.Watts
		for fire, flame := range ofKind(f.Loads, api.LoadFire) {
			if distance(generator, flame) < apart {
				near = append(near, api.Near{Power: power, Fire: fire})
			}
		}
	}
	for _, lamp := range ofKind(f.Loads, api.LoadLamp) {
		spare -= lamp.Watts
	}
	return near, spare, api.OK
}

// ofKind hands out the loads of a kind, each with its number.
func ofKind(loads []api.Load, kind int) iter.Seq2[int, api.Load] {
	return func(yield func(int, api.Load) bool) {
		for i, l := range loads {
			if l.Kind == kind && !yield(i, l) {
				return
			}
		}
	}
}

func distance(a, b api.Load) int { return max(a.At-b.At, b.At-a.At) }
