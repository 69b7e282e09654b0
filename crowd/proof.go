package crowd

import (
	"slices"

	"bateria/api"
)

// Prove returns the proof that closing at most so many streets does not help.
func Prove(t api.Town, most int) ([]api.Reason, api.Errno) {
	if e := checkMost(t, most); e != api.OK {
		return nil, e
	}
	if _, found := calm(t, most); found {
		return nil, api.ErrMissing
	}
	proof := prove(t, most)
	if len(proof) > api.MaxReasons {
		return nil, api.ErrFull
	}
	return proof, api.OK
}

// Proved returns whether reasons prove that closing at most so many streets does not help.
func Proved(t api.Town, most int, proof []api.Reason) (bool, api.Errno) {
	if e := checkMost(t, most); e != api.OK {
		return false, e
	}
	rest, ok := behind(t, most, state{}, proof)
	return ok && len(rest) == 0, api.OK
}

// prove makes the proof for a town in which no choice of at most so many streets helps. It gives up soon after the proof is too long.
func prove(t api.Town, most int) []api.Reason {
	var proof []api.Reason
	var proveFor func(s state)
	proveFor = func(s state) {
		r := reason(t, most, s)
		proof = append(proof, r)
		if r.Kind != api.ReasonSplit || len(proof) > api.MaxReasons {
			return
		}
		proveFor(s.with(r.Street, open))
		proveFor(s.with(r.Street, shut))
	}
	proveFor(state{})
	return proof
}

// reason is the first reason of the proof for a state, in a town in which no choice helps. So if all streets are decided, too many are shut, or a square is too full; otherwise there is one to split.
func reason(t api.Town, most int, s state) api.Reason {
	if s.count(shut) > most {
		return api.Reason{Kind: api.ReasonMany}
	}
	if crush, found := foresee(t, s).firstCrush(); found {
		return api.Reason{Kind: api.ReasonFull, Square: crush.Square, Step: crush.Step}
	}
	return api.Reason{Kind: api.ReasonSplit, Street: slices.Index(s[:], undecided)}
}

// behind returns what stands behind the proof for a state with which a list begins, if it begins with one.
func behind(t api.Town, most int, s state, list []api.Reason) (rest []api.Reason, ok bool) {
	if len(list) == 0 {
		return nil, false
	}
	first, rest := list[0], list[1:]
	switch {
	case first == api.Reason{Kind: api.ReasonMany}:
		return rest, s.count(shut) > most
	case first == api.Reason{Kind: api.ReasonFull, Square: first.Square, Step: first.Step}:
		return rest, isFull(t, s, first.Square, first.Step)
	case first != api.Reason{Kind: api.ReasonSplit, Street: first.Street}:
		return nil, false
	case !isStreet(t, first.Street) || !s.isUndecided(first.Street):
		return nil, false
	}
	for _, is := range []int{open, shut} {
		if rest, ok = behind(t, most, s.with(first.Street, is), rest); !ok {
			return nil, false
		}
	}
	return rest, true
}

// isFull says whether the sure number of a square in a step is greater than its room.
func isFull(t api.Town, s state, square, step int) bool {
	return isSquare(t, square) && within(step, 0, t.Steps) && foresee(t, s).loads(step)[square].Hi > t.Rooms[square]
}
