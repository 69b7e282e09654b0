package float

import "bateria/api"

// maxBridge is the most that a bridge carries.
const maxBridge = 100 * api.MaxKilos

// Check returns the first error of a float.
func Check(f api.Float) api.Errno {
	if e := checkFrame(f); e != api.OK {
		return e
	}
	if len(f.Loads) > api.MaxLoads {
		return api.ErrFull
	}
	for _, l := range f.Loads {
		if e := checkLoad(f, l); e != api.OK {
			return e
		}
	}
	return api.OK
}

// CheckRoute returns the first error of a route.
func CheckRoute(route []api.Hurdle) api.Errno {
	if len(route) > api.MaxHurdles {
		return api.ErrFull
	}
	for _, h := range route {
		if e := checkHurdle(h); e != api.OK {
			return e
		}
	}
	return api.OK
}

// checkBoth returns the first error of a float, then that of a route.
func checkBoth(f api.Float, route []api.Hurdle) api.Errno {
	if e := Check(f); e != api.OK {
		return e
	}
	return CheckRoute(route)
}

func checkFrame(f api.Float) api.Errno {
	switch {
	case !within(f.Length, 1, api.MaxLong) || !within(f.Width, 1, api.MaxBroad):
		return api.ErrRange
	case !within(f.Front, 0, f.Length) || !within(f.Rear, 0, f.Length):
		return api.ErrRange
	case f.Front >= f.Rear:
		return api.ErrOrder
	case !within(f.Turn, 0, api.MaxRadius) || !within(f.Kilos, 0, api.MaxKilos):
		return api.ErrRange
	case !within(f.Middle, 0, f.Length) || !within(f.High, 0, api.MaxTop):
		return api.ErrRange
	}
	return api.OK
}

func checkLoad(f api.Float, l api.Load) api.Errno {
	if !within(l.At, f.Front, f.Rear) {
		return api.ErrRange
	}
	if e := checkSpan(l.Kilos, api.MaxKilos); e != api.OK {
		return e
	}
	if e := checkSpan(l.Top, api.MaxTop); e != api.OK {
		return e
	}
	switch {
	case !within(l.Kind, api.LoadPlain, api.LoadFire):
		return api.ErrKind
	case !within(l.Watts, 0, api.MaxWatts):
		return api.ErrRange
	case l.Watts > 0 && l.Kind != api.LoadPower && l.Kind != api.LoadLamp:
		return api.ErrForm
	}
	return api.OK
}

func checkHurdle(h api.Hurdle) api.Errno {
	switch h.Kind {
	case api.HurdleBend:
		return checkBend(h)
	case api.HurdleWire:
		return checkWire(h)
	case api.HurdleBridge:
		return checkBridge(h)
	}
	return api.ErrKind
}

func checkBend(h api.Hurdle) api.Errno {
	switch {
	case !within(h.A, 0, api.MaxRadius) || !within(h.B, 0, api.MaxRadius):
		return api.ErrRange
	case h.A >= h.B:
		return api.ErrOrder
	}
	return api.OK
}

func checkWire(h api.Hurdle) api.Errno {
	switch {
	case !within(h.A, 0, api.MaxTop):
		return api.ErrRange
	case h.B != 0:
		return api.ErrForm
	}
	return api.OK
}

func checkBridge(h api.Hurdle) api.Errno {
	if !within(h.A, 0, maxBridge) || !within(h.B, 0, maxBridge) {
		return api.ErrRange
	}
	return api.OK
}

// checkSpan returns the error of a span from 0 up to a number.
func checkSpan(s api.Span, most int) api.Errno {
	switch {
	case !within(s.Lo, 0, most) || !within(s.Hi, 0, most):
		return api.ErrRange
	case s.Lo > s.Hi:
		return api.ErrOrder
	}
	return api.OK
}

func within(n, least, most int) bool { return n >= least && n <= most }
