package float_test

import (
	"math"
	"reflect"
	"slices"
	"strings"
	"testing"

	"bateria/api"
	"bateria/float"
)

var strange = []int{math.MinInt, math.MinInt + 1, -1, 0, 1, 2, 300, api.MaxRadius, math.MaxInt - 1, math.MaxInt}

// P1 and R5: any values are taken, and all functions return; R3: with an error the other results are zero values.
func TestStrangeArguments(t *testing.T) {
	for _, a := range strange {
		for _, b := range strange {
			for _, f := range []api.Float{
				changed(func(f *api.Float) { f.Length, f.Width = a, b }),
				changed(func(f *api.Float) { f.Front, f.Rear = a, b }),
				changed(func(f *api.Float) { f.Turn, f.Kilos = a, b }),
				changed(func(f *api.Float) { f.Middle, f.High = a, b }),
				changed(func(f *api.Float) { f.Loads[0].At, f.Loads[0].Kind = a, b }),
				changed(func(f *api.Float) { f.Loads[0].Kilos, f.Loads[1].Top = span(a, b), span(b, a) }),
				changed(func(f *api.Float) { f.Loads[1].Kind, f.Loads[1].Watts = a, b }),
				{Length: a, Width: b, Front: a, Rear: b, Turn: a, Kilos: b, Middle: a, High: b, Loads: make([]api.Load, 1000)},
			} {
				askAll(t, f, []api.Hurdle{bend(700, 1400), wire(520), bridge(5850, 3067)}, 500, 100)
			}
			for kind := range 5 {
				askAll(t, dragon(), []api.Hurdle{wire(520), {Kind: kind, A: a, B: b}}, a, b)
				askAll(t, dragon(), nil, a, b)
			}
			askAll(t, dragon(), []api.Hurdle{{Kind: a, A: b, B: a}}, 500, 100)
		}
	}
	for _, text := range []string{"\x00", "\xff\xfe\n", strings.Repeat("\n", 3000), strings.Repeat(" ", 3000), head + "load \xff 1 1 1 1 1 1\nend 1\n"} {
		if f, _, e := float.Read(text); e == api.OK || !reflect.DeepEqual(f, api.Float{}) {
			t.Errorf("Read %q %v %v", text, f, e)
		}
	}
}

// askAll asks all functions about a float, and looks for results beside an error.
func askAll(t *testing.T, f api.Float, route []api.Hurdle, at, apart int) {
	t.Helper()
	zero := api.Span{}
	if x, e := float.Total(f); e != api.OK && x != zero {
		t.Error("Total", f, x, e)
	}
	if x, y, e := float.Axles(f); e != api.OK && (x != zero || y != zero) {
		t.Error("Axles", f, x, y, e)
	}
	if x, e := float.Height(f); e != api.OK && x != zero {
		t.Error("Height", f, x, e)
	}
	if v, e := float.Stands(f); e != api.OK && v != 0 {
		t.Error("Stands", f, v, e)
	}
	if l, e := float.Passes(f, route); e != api.OK && len(l) > 0 {
		t.Error("Passes", f, route, l, e)
	}
	if n, e := float.Stops(f, route); e != api.OK && n != 0 {
		t.Error("Stops", f, route, n, e)
	}
	if x, e := float.Ballast(f, route, at); e != api.OK && x != zero {
		t.Error("Ballast", f, route, at, x, e)
	}
	if l, n, e := float.Fire(f, apart); e != api.OK && (len(l) > 0 || n != 0) {
		t.Error("Fire", f, apart, l, n, e)
	}
	if text, e := float.Write(f); e != api.OK && text != "" {
		t.Error("Write", f, text, e)
	}
}

// R4: arguments are not changed, not even behind their ends, and results are new memory.
func TestMemory(t *testing.T) {
	// there is room behind the loads and the route, which belongs to the caller
	f, route := dragon(), []api.Hurdle{wire(520), wire(519), bend(1, 2), bend(1, 2)}
	mark := api.Load{At: 77}
	f.Loads = append(f.Loads, mark, mark)[:len(f.Loads)]
	route = route[:2]
	for range 2 { // a second time, after the results of the first one were changed
		askAll(t, f, route, 500, 101)
		askAll(t, f, nil, 500, 101)
		verdicts, _ := float.Passes(f, route)
		near, _, _ := float.Fire(f, 101)
		read, _, _ := float.Read(card)
		if !slices.Equal(verdicts, []int{sure, open}) || !slices.Equal(near, []api.Near{{Power: 1, Fire: 3}}) || !reflect.DeepEqual(read, dragon()) {
			t.Error(verdicts, near, read)
		}
		verdicts[0], near[0].Fire, read.Loads[0].At = 9, 9, 9
	}
	if !same(f, dragon()) || !slices.Equal(route, []api.Hurdle{wire(520), wire(519)}) {
		t.Error(f, route)
	}
	if !slices.Equal(f.Loads[4:6], []api.Load{mark, mark}) || route[:4][2] != bend(1, 2) {
		t.Error(f.Loads[:6], route[:4])
	}
}

// R4: a nil slice and an empty one are equal.
func TestEmpty(t *testing.T) {
	empty, none := dragon(), dragon()
	empty.Loads, none.Loads = []api.Load{}, nil
	route := []api.Hurdle{wire(400), bridge(4000, 1999)}
	if a, b := says(t, empty), says(t, none); a != b {
		t.Error(a, b)
	}
	if a, b := passes(t, empty, route), passes(t, none, route); !slices.Equal(a, b) {
		t.Error(a, b)
	}
	x, e1 := float.Ballast(none, []api.Hurdle{}, 500)
	y, e2 := float.Ballast(empty, nil, 500)
	if x != y || x != span(0, 100000) || e1 != api.OK || e2 != api.OK {
		t.Error(x, y, e1, e2)
	}
}

// R7: the greatest sums are exact.
func TestGreatest(t *testing.T) {
	f := greatest()
	if s := says(t, f); s != (said{one(2100000), one(0), one(2100000), one(2000), sure}) {
		t.Error(s)
	}
	f.Loads[19].At = 2999
	if s := says(t, f); s != (said{one(2100000), span(33, 34), span(2099966, 2099967), one(2000), sure}) {
		t.Error(s)
	}
	route := slices.Repeat([]api.Hurdle{bridge(2100000, 2099967), bridge(2100000, 2099966), bridge(2099999, 2099967), bend(0, 20000)}, 10)
	if l := passes(t, f, route); !slices.Equal(l, slices.Repeat([]int{sure, never, never, never}, 10)) {
		t.Error(l)
	}
	if x, e := float.Ballast(f, []api.Hurdle{bridge(2199999, 10000000)}, 3000); x != span(0, 99999) || e != api.OK {
		t.Error(x, e)
	}
}
