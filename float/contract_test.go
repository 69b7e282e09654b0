package float_test

import (
	"slices"
	"testing"

	"bateria/api"
	"bateria/float"
)

var floats = []struct {
	about  string
	change func(f *api.Float)
	want   api.Errno
}{
	{"the example", func(f *api.Float) {}, api.OK},
	{"least numbers", func(f *api.Float) { *f = api.Float{Length: 1, Width: 1, Rear: 1} }, api.OK},
	{"greatest numbers", func(f *api.Float) { *f = greatest() }, api.OK},
	{"nothing", func(f *api.Float) { *f = api.Float{} }, api.ErrRange},
	{"no length", func(f *api.Float) { f.Length = 0 }, api.ErrRange},
	{"no length before the order", func(f *api.Float) { f.Length, f.Front, f.Rear = 0, 0, 0 }, api.ErrRange},
	{"too long", func(f *api.Float) { f.Length = 3001 }, api.ErrRange},
	{"a length before the order", func(f *api.Float) { f.Length, f.Front, f.Rear = 3001, 800, 200 }, api.ErrRange},
	{"no width", func(f *api.Float) { f.Width = 0 }, api.ErrRange},
	{"too wide", func(f *api.Float) { f.Width = 1001 }, api.ErrRange},
	{"a width before the order", func(f *api.Float) { f.Width, f.Front = 1001, 800 }, api.ErrRange},
	{"a front axle ahead", func(f *api.Float) { f.Front = -1 }, api.ErrRange},
	{"a front axle behind", func(f *api.Float) { f.Front = 1001 }, api.ErrRange},
	{"a rear axle ahead", func(f *api.Float) { f.Rear = -1 }, api.ErrRange},
	{"a rear axle behind", func(f *api.Float) { f.Rear = 1001 }, api.ErrRange},
	{"axles at the ends", func(f *api.Float) { f.Front, f.Rear = 0, 1000 }, api.OK},
	{"one axle", func(f *api.Float) { f.Front = 800 }, api.ErrOrder},
	{"axles the wrong way round", func(f *api.Float) { f.Front, f.Rear = 800, 200 }, api.ErrOrder},
	{"axles before the turn", func(f *api.Float) { f.Front, f.Turn = 800, -1 }, api.ErrOrder},
	{"axles before kilos", func(f *api.Float) { f.Front, f.Kilos = 800, -1 }, api.ErrOrder},
	{"axles before the middle", func(f *api.Float) { f.Front, f.Middle = 800, -1 }, api.ErrOrder},
	{"axles before the height", func(f *api.Float) { f.Front, f.High = 800, -1 }, api.ErrOrder},
	{"a turn below 0", func(f *api.Float) { f.Turn = -1 }, api.ErrRange},
	{"too wide a turn", func(f *api.Float) { f.Turn = 20001 }, api.ErrRange},
	{"kilos below 0", func(f *api.Float) { f.Kilos = -1 }, api.ErrRange},
	{"too many kilos", func(f *api.Float) { f.Kilos = 100001 }, api.ErrRange},
	{"a middle ahead", func(f *api.Float) { f.Middle = -1 }, api.ErrRange},
	{"a middle behind", func(f *api.Float) { f.Middle = 1001 }, api.ErrRange},
	{"a middle at the front end", func(f *api.Float) { f.Middle = 0 }, api.OK},
	{"a middle at the rear end", func(f *api.Float) { f.Middle = 1000 }, api.OK},
	{"a height below 0", func(f *api.Float) { f.High = -1 }, api.ErrRange},
	{"too high", func(f *api.Float) { f.High = 2001 }, api.ErrRange},
	{"a height before too many loads", func(f *api.Float) { f.High, f.Loads = 2001, make([]api.Load, 21) }, api.ErrRange},
	{"too many loads", func(f *api.Float) { f.Loads = slices.Repeat(f.Loads[:1], 21) }, api.ErrFull},
	{"too many loads before what they are", func(f *api.Float) { f.Loads = make([]api.Load, 21) }, api.ErrFull},
	{"as many loads as may be", func(f *api.Float) { f.Loads = slices.Repeat(f.Loads, 5) }, api.OK},
	{"no loads", func(f *api.Float) { f.Loads = nil }, api.OK},
	{"no loads, not nil", func(f *api.Float) { f.Loads = []api.Load{} }, api.OK},
	{"a load before the front axle", func(f *api.Float) { f.Loads[0].At = 199 }, api.ErrRange},
	{"a load on the front axle", func(f *api.Float) { f.Loads[0].At = 200 }, api.OK},
	{"a load on the rear axle", func(f *api.Float) { f.Loads[0].At = 800 }, api.OK},
	{"a load behind the rear axle", func(f *api.Float) { f.Loads[0].At = 801 }, api.ErrRange},
	{"a place before the order of kilos", func(f *api.Float) { f.Loads[0].At, f.Loads[0].Kilos = 801, span(2, 1) }, api.ErrRange},
	{"a load of kilos below 0", func(f *api.Float) { f.Loads[1].Kilos = span(-1, 5) }, api.ErrRange},
	{"a load of too many kilos", func(f *api.Float) { f.Loads[1].Kilos = span(5, 100001) }, api.ErrRange},
	{"bounds of kilos before their order", func(f *api.Float) { f.Loads[1].Kilos = span(5, -1) }, api.ErrRange},
	{"bounds of kilos before their order, above", func(f *api.Float) { f.Loads[1].Kilos = span(100001, 5) }, api.ErrRange},
	{"the order of kilos", func(f *api.Float) { f.Loads[1].Kilos = span(6, 5) }, api.ErrOrder},
	{"the order of kilos before the top", func(f *api.Float) { f.Loads[1].Kilos, f.Loads[1].Top = span(6, 5), one(2001) }, api.ErrOrder},
	{"a top below 0", func(f *api.Float) { f.Loads[1].Top = span(-1, 5) }, api.ErrRange},
	{"too high a top", func(f *api.Float) { f.Loads[1].Top = span(5, 2001) }, api.ErrRange},
	{"bounds of the top before its order", func(f *api.Float) { f.Loads[1].Top = span(2001, 5) }, api.ErrRange},
	{"the order of the top", func(f *api.Float) { f.Loads[1].Top = span(6, 5) }, api.ErrOrder},
	{"the order of the top before the kind", func(f *api.Float) { f.Loads[1].Top, f.Loads[1].Kind = span(6, 5), 0 }, api.ErrOrder},
	{"a top before the kind", func(f *api.Float) { f.Loads[1].Top, f.Loads[1].Kind = one(2001), 0 }, api.ErrRange},
	{"no kind", func(f *api.Float) { f.Loads[1].Kind = 0 }, api.ErrKind},
	{"a kind that is not", func(f *api.Float) { f.Loads[1].Kind = 5 }, api.ErrKind},
	{"a kind below 0", func(f *api.Float) { f.Loads[1].Kind = -1 }, api.ErrKind},
	{"a kind before watts", func(f *api.Float) { f.Loads[1].Kind, f.Loads[1].Watts = 5, -1 }, api.ErrKind},
	{"watts below 0", func(f *api.Float) { f.Loads[1].Watts = -1 }, api.ErrRange},
	{"too many watts", func(f *api.Float) { f.Loads[2].Watts = 1000001 }, api.ErrRange},
	{"too many watts before none", func(f *api.Float) { f.Loads[0].Watts = 1000001 }, api.ErrRange},
	{"watts below 0 before none", func(f *api.Float) { f.Loads[3].Watts = -1 }, api.ErrRange},
	{"watts of a figure", func(f *api.Float) { f.Loads[0].Watts = 1 }, api.ErrForm},
	{"watts of a fire", func(f *api.Float) { f.Loads[3].Watts = 1 }, api.ErrForm},
	{"no watts", func(f *api.Float) { f.Loads[1].Watts, f.Loads[2].Watts = 0, 0 }, api.OK},
	{"watts of one load before the place of the next", func(f *api.Float) { f.Loads[0].Watts, f.Loads[1].At = 1, -1 }, api.ErrForm},
	{"the order of one load before the place of the next", func(f *api.Float) { f.Loads[0].Top, f.Loads[1].At = span(6, 5), -1 }, api.ErrOrder},
	{"the last load", func(f *api.Float) { f.Loads[3].Kind = 9 }, api.ErrKind},
}

// greatest is a float whose numbers are as great as they may be.
func greatest() api.Float {
	l := api.Load{At: 3000, Kilos: one(100000), Top: one(2000), Kind: api.LoadLamp, Watts: 1000000}
	return api.Float{
		Length: 3000, Width: 1000, Rear: 3000, Turn: 20000, Kilos: 100000, Middle: 3000, High: 2000,
		Loads: slices.Repeat([]api.Load{l}, 20),
	}
}

// P2.1: Check returns the first error of a float, and so does each function first of all; R3: the other results are zero values then.
func TestCheck(t *testing.T) {
	wrong := []api.Hurdle{{}}
	for _, c := range floats {
		f := changed(c.change)
		if e := float.Check(f); e != c.want {
			t.Error(c.about, e)
		}
		if c.want == api.OK {
			continue
		}
		total, e1 := float.Total(f)
		front, rear, e2 := float.Axles(f)
		height, e3 := float.Height(f)
		stands, e4 := float.Stands(f)
		passes, e5 := float.Passes(f, wrong)
		stops, e6 := float.Stops(f, wrong)
		ballast, e7 := float.Ballast(f, wrong, -1)
		near, spare, e8 := float.Fire(f, -1)
		text, e9 := float.Write(f)
		for i, e := range []api.Errno{e1, e2, e3, e4, e5, e6, e7, e8, e9} {
			if e != c.want {
				t.Error(c.about, i+1, e)
			}
		}
		for i, x := range []api.Span{total, front, rear, height, ballast} {
			if x != span(0, 0) {
				t.Error(c.about, i, x)
			}
		}
		if stands != 0 || len(passes) > 0 || stops != 0 || len(near) > 0 || spare != 0 || text != "" {
			t.Error(c.about, stands, passes, stops, near, spare, text)
		}
	}
}

var routes = []struct {
	about string
	route []api.Hurdle
	want  api.Errno
}{
	{"no hurdles", nil, api.OK},
	{"no hurdles, not nil", []api.Hurdle{}, api.OK},
	{"as many as may be", slices.Repeat([]api.Hurdle{wire(2000)}, 40), api.OK},
	{"too many", slices.Repeat([]api.Hurdle{wire(2000)}, 41), api.ErrFull},
	{"too many before what they are", make([]api.Hurdle, 41), api.ErrFull},
	{"no kind", []api.Hurdle{{A: 1, B: 2}}, api.ErrKind},
	{"a kind that is not", []api.Hurdle{{Kind: 4, A: 1, B: 2}}, api.ErrKind},
	{"a kind below 0", []api.Hurdle{{Kind: -1, A: 1, B: 2}}, api.ErrKind},
	{"a kind before numbers", []api.Hurdle{{Kind: 4, A: -1, B: -1}}, api.ErrKind},
	{"the least bend", []api.Hurdle{bend(0, 1)}, api.OK},
	{"the greatest bend", []api.Hurdle{bend(19999, 20000)}, api.OK},
	{"a bend below 0", []api.Hurdle{bend(-1, 5)}, api.ErrRange},
	{"a bend below 0, outside", []api.Hurdle{bend(5, -1)}, api.ErrRange},
	{"too great a bend", []api.Hurdle{bend(5, 20001)}, api.ErrRange},
	{"too great a bend, inside", []api.Hurdle{bend(20001, 5)}, api.ErrRange},
	{"a bend without room", []api.Hurdle{bend(5, 5)}, api.ErrOrder},
	{"a bend inside out", []api.Hurdle{bend(6, 5)}, api.ErrOrder},
	{"the lowest wire", []api.Hurdle{wire(0)}, api.OK},
	{"a wire below 0", []api.Hurdle{wire(-1)}, api.ErrRange},
	{"too high a wire", []api.Hurdle{wire(2001)}, api.ErrRange},
	{"a wire with B", []api.Hurdle{{Kind: api.HurdleWire, A: 5, B: 1}}, api.ErrForm},
	{"a wire with B below 0", []api.Hurdle{{Kind: api.HurdleWire, A: 5, B: -1}}, api.ErrForm},
	{"a wire too high before its B", []api.Hurdle{{Kind: api.HurdleWire, A: 2001, B: 1}}, api.ErrRange},
	{"the weakest bridge", []api.Hurdle{bridge(0, 0)}, api.OK},
	{"the strongest bridge", []api.Hurdle{bridge(10000000, 10000000)}, api.OK},
	{"a bridge below 0", []api.Hurdle{bridge(-1, 5)}, api.ErrRange},
	{"a bridge below 0 on an axle", []api.Hurdle{bridge(5, -1)}, api.ErrRange},
	{"too strong a bridge", []api.Hurdle{bridge(10000001, 5)}, api.ErrRange},
	{"too strong a bridge on an axle", []api.Hurdle{bridge(5, 10000001)}, api.ErrRange},
	{"the first one's order before the next one's kind", []api.Hurdle{bend(6, 5), {}}, api.ErrOrder},
	{"the first one's B before the next one's kind", []api.Hurdle{{Kind: api.HurdleWire, B: 1}, {}}, api.ErrForm},
	{"the last one", append(slices.Repeat([]api.Hurdle{bridge(5, 5)}, 39), bend(5, 5)), api.ErrOrder},
}

// P2.1, P2.2 and P2.3: CheckRoute returns the first error of a route, and others return it before their own.
func TestCheckRoute(t *testing.T) {
	for _, c := range routes {
		if e := float.CheckRoute(c.route); e != c.want {
			t.Error(c.about, e)
		}
		passes, e1 := float.Passes(dragon(), c.route)
		stops, e2 := float.Stops(dragon(), c.route)
		ballast, e3 := float.Ballast(dragon(), c.route, -1)
		if c.want == api.OK {
			if e1 != api.OK || e2 != api.OK || e3 != api.ErrRange || len(passes) != len(c.route) {
				t.Error(c.about, e1, e2, e3, passes)
			}
			continue
		}
		if e1 != c.want || e2 != c.want || e3 != c.want || len(passes) > 0 || stops != 0 || ballast != span(0, 0) {
			t.Error(c.about, e1, e2, e3, passes, stops, ballast)
		}
	}
}

// P2.1 and P2.2: Total, Axles, Height and Stands.
func TestCarries(t *testing.T) {
	// the middle is before both axles, the load on the rear one
	ahead := api.Float{Length: 10, Width: 5, Front: 4, Rear: 7, Kilos: 10, Loads: []api.Load{{At: 7, Kilos: span(5, 40), Kind: api.LoadPlain}}}
	// the rear axle carries -1/3, which is rounded up to 0, and yet the float never stands
	falls := api.Float{Length: 4, Width: 1, Front: 1, Rear: 4, Kilos: 1}
	for i, c := range []struct {
		f                          api.Float
		total, front, rear, height api.Span
		stands                     int
	}{
		{dragon(), span(5650, 5850), span(2650, 2784), span(3000, 3067), span(450, 520), sure},
		{changed(func(f *api.Float) { f.Middle = 900 }), span(5650, 5850), span(-17, 117), span(5666, 5734), span(450, 520), open},
		{changed(func(f *api.Float) { f.Middle = 950 }), span(5650, 5850), span(-350, -216), span(6000, 6067), span(450, 520), never},
		{changed(func(f *api.Float) { f.Loads = nil }), one(4000), one(2000), one(2000), one(400), sure},
		{changed(func(f *api.Float) { f.High = 519 }), span(5650, 5850), span(2650, 2784), span(3000, 3067), span(519, 520), sure},
		{changed(func(f *api.Float) { f.High = 521 }), span(5650, 5850), span(2650, 2784), span(3000, 3067), one(521), sure},
		{ahead, span(15, 50), span(23, 24), span(-9, 27), one(0), open},
		{falls, one(1), span(1, 2), span(-1, 0), one(0), never},
		{api.Float{Length: 1, Width: 1, Rear: 1, Kilos: 7, Middle: 1}, one(7), one(0), one(7), one(0), sure},
		{api.Float{Length: 1, Width: 1, Rear: 1}, one(0), one(0), one(0), one(0), sure},
	} {
		total, e1 := float.Total(c.f)
		front, rear, e2 := float.Axles(c.f)
		height, e3 := float.Height(c.f)
		stands, e4 := float.Stands(c.f)
		if total != c.total || front != c.front || rear != c.rear || height != c.height || stands != c.stands {
			t.Error(i, total, front, rear, height, stands)
		}
		if e1 != api.OK || e2 != api.OK || e3 != api.OK || e4 != api.OK {
			t.Error(i, e1, e2, e3, e4)
		}
	}
}

// P2.2: Passes and Stops.
func TestPasses(t *testing.T) {
	for i, c := range []struct {
		route []api.Hurdle
		want  []int
		stops int
	}{
		{nil, nil, -1},
		{[]api.Hurdle{bend(700, 1400), bend(700, 1320), bend(760, 1400)}, []int{sure, never, sure}, 1},
		{[]api.Hurdle{bend(0, 1321), bend(750, 1321), bend(751, 1321), bend(752, 1321)}, []int{sure, sure, sure, never}, 3},
		{[]api.Hurdle{wire(520), wire(519), wire(450), wire(449)}, []int{sure, open, open, never}, 1},
		{[]api.Hurdle{bridge(5850, 3067), bridge(5849, 3067), bridge(5649, 3067), bridge(5850, 3066), bridge(5850, 2999)}, []int{sure, open, never, open, never}, 1},
		{[]api.Hurdle{bridge(5650, 3000), bridge(5650, 2999)}, []int{open, never}, 0},
		{[]api.Hurdle{wire(520), wire(519)}, []int{sure, open}, 1},
		{[]api.Hurdle{wire(520)}, []int{sure}, -1},
		{[]api.Hurdle{wire(449), wire(519)}, []int{never, open}, 0},
	} {
		l, e := float.Passes(dragon(), c.route)
		stop, e2 := float.Stops(dragon(), c.route)
		if !slices.Equal(l, c.want) || stop != c.stops || e != api.OK || e2 != api.OK {
			t.Error(i, l, stop, e, e2)
		}
	}
}

// P2.2: what an axle carries is not rounded before it is held against a bridge.
func TestBridgeOfFractions(t *testing.T) {
	// each axle carries a half of 7
	half := api.Float{Length: 2, Width: 1, Rear: 2, Kilos: 7, Middle: 1}
	// the rear axle carries a half of 7, or of 9
	more := half
	more.Loads = []api.Load{{At: 2, Kilos: span(0, 1), Kind: api.LoadPlain}}
	for i, c := range []struct {
		f    api.Float
		b    int
		want int
	}{{half, 3, never}, {half, 4, sure}, {more, 3, never}, {more, 4, open}, {more, 5, sure}} {
		if l, e := float.Passes(c.f, []api.Hurdle{bridge(8, c.b)}); !slices.Equal(l, []int{c.want}) || e != api.OK {
			t.Error(i, l, e)
		}
	}
}

// P2.3: Ballast.
func TestBallast(t *testing.T) {
	behind := changed(func(f *api.Float) { f.Middle = 900 })
	full := changed(func(f *api.Float) { f.Loads = slices.Repeat(f.Loads, 5) })
	for i, c := range []struct {
		f     api.Float
		route []api.Hurdle
		at    int
		want  api.Span
		e     api.Errno
	}{
		{dragon(), []api.Hurdle{bridge(6000, 3100)}, 500, span(0, 66), api.OK},
		{dragon(), []api.Hurdle{bridge(6000, 3200)}, 500, span(0, 150), api.OK},
		{dragon(), []api.Hurdle{bridge(5850, 3067)}, 500, one(0), api.OK},
		{dragon(), []api.Hurdle{bridge(5849, 3067)}, 500, span(0, 0), api.ErrMissing},
		{dragon(), nil, 200, span(0, 100000), api.OK},
		{dragon(), nil, 800, span(0, 100000), api.OK},
		{dragon(), nil, 199, span(0, 0), api.ErrRange},
		{dragon(), nil, 801, span(0, 0), api.ErrRange},
		{dragon(), []api.Hurdle{bridge(0, 0)}, 801, span(0, 0), api.ErrRange},
		{dragon(), []api.Hurdle{wire(520)}, 500, span(0, 100000), api.OK},
		{dragon(), []api.Hurdle{wire(519)}, 500, span(0, 0), api.ErrMissing},
		{dragon(), []api.Hurdle{bend(700, 1320)}, 500, span(0, 0), api.ErrMissing},
		{dragon(), []api.Hurdle{bridge(105850, 10000000)}, 500, span(0, 100000), api.OK},
		{dragon(), []api.Hurdle{bridge(105849, 10000000)}, 500, span(0, 99999), api.OK},
		{dragon(), []api.Hurdle{bridge(6000, 3100), bridge(5900, 10000)}, 500, span(0, 50), api.OK},
		{behind, nil, 200, span(17, 100000), api.OK},
		{behind, nil, 800, span(0, 0), api.ErrMissing},
		{behind, nil, 799, span(10000, 100000), api.OK},
		{behind, []api.Hurdle{bridge(5867, 5734)}, 200, one(17), api.OK},
		{behind, []api.Hurdle{bridge(5866, 5734)}, 200, span(0, 0), api.ErrMissing},
		{full, nil, 500, span(0, 100000), api.OK},
		{full, []api.Hurdle{bridge(14000, 14000)}, 500, span(0, 750), api.OK},
	} {
		if x, e := float.Ballast(c.f, c.route, c.at); x != c.want || e != c.e {
			t.Error(i, x, e)
		}
	}
}

// P2.4: Fire.
func TestFire(t *testing.T) {
	many := changed(func(f *api.Float) {
		f.Loads = append(f.Loads, api.Load{At: 650, Kind: api.LoadFire}, api.Load{At: 610, Kind: api.LoadPower, Watts: 10})
	})
	dark := changed(func(f *api.Float) { f.Loads[1].Kind = api.LoadLamp })
	greater := greatest()
	for i, c := range []struct {
		f     api.Float
		apart int
		near  []api.Near
		spare int
		e     api.Errno
	}{
		{dragon(), 100, nil, 2000, api.OK},
		{dragon(), 101, []api.Near{{Power: 1, Fire: 3}}, 2000, api.OK},
		{dragon(), 0, nil, 2000, api.OK},
		{dragon(), 3000, []api.Near{{Power: 1, Fire: 3}}, 2000, api.OK},
		{dragon(), -1, nil, 0, api.ErrRange},
		{dragon(), 3001, nil, 0, api.ErrRange},
		{many, 10, nil, 2010, api.OK},
		{many, 11, []api.Near{{Power: 5, Fire: 3}}, 2010, api.OK},
		{many, 51, []api.Near{{Power: 1, Fire: 4}, {Power: 5, Fire: 3}, {Power: 5, Fire: 4}}, 2010, api.OK},
		{many, 101, []api.Near{{Power: 1, Fire: 3}, {Power: 1, Fire: 4}, {Power: 5, Fire: 3}, {Power: 5, Fire: 4}}, 2010, api.OK},
		{dark, 3000, nil, -8000, api.OK},
		{greater, 3000, nil, -20000000, api.OK},
		{changed(func(f *api.Float) { f.Loads = nil }), 3000, nil, 0, api.OK},
		{changed(func(f *api.Float) { f.Loads[1].At = 600 }), 0, nil, 2000, api.OK},
		{changed(func(f *api.Float) { f.Loads[1].At = 600 }), 1, []api.Near{{Power: 1, Fire: 3}}, 2000, api.OK},
	} {
		if near, spare, e := float.Fire(c.f, c.apart); !slices.Equal(near, c.near) || spare != c.spare || e != c.e {
			t.Error(i, near, spare, e)
		}
	}
}
