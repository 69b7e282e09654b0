package crowd_test

import (
	"math"
	"reflect"
	"slices"
	"strings"
	"testing"

	"bateria/api"
	"bateria/crowd"
)

var strange = []int{math.MinInt, math.MinInt + 1, -1, 0, 1, 2, 3, 12, 96, 97, 1000000, math.MaxInt - 1, math.MaxInt}

// P1 and R5: any values are taken, and all functions return; R3: with an error the other results are zero values.
func TestStrangeArguments(t *testing.T) {
	for _, a := range strange {
		for _, b := range strange {
			for _, x := range []api.Town{
				changed(func(t *api.Town) { t.Rooms[1], t.Rooms[2] = a, b }),
				changed(func(t *api.Town) { t.Streets[1] = api.Street{A: a, B: b} }),
				changed(func(t *api.Town) { t.Steps, t.Groups[0].Stay = a, b }),
				changed(func(t *api.Town) { t.Groups[0].Size = span(a, b) }),
				changed(func(t *api.Town) { t.Groups[0].At = span(a, b) }),
				changed(func(t *api.Town) { t.Groups[0].First, t.Groups[0].Path[0] = a, b }),
				changed(func(t *api.Town) { t.Groups[0].Path = []int{0, a, b} }),
				changed(func(t *api.Town) { t.Groups[1].Stay, t.Groups[1].At.Hi = a, b }),
				{Rooms: []int{a}, Steps: b},
				{Rooms: make([]int, 1000), Streets: make([]api.Street, 1000), Groups: make([]api.Group, 1000)},
				{Rooms: []int{1}, Groups: []api.Group{{Path: make([]int, 1000), Stay: 1}}},
				{},
			} {
				askAll(t, x, nil, 1, 0)
				askAll(t, x, []int{0}, 0, 2)
			}
			askAll(t, plaza(), []int{a, b}, 1, 1)
			askAll(t, plaza(), []int{0, a, b}, 1, 1)
			askAll(t, plaza(), nil, a, b)
			askAll(t, plaza(), make([]int, 1000), a, b)
			askProof(t, a, []api.Reason{split(b), many(), many()})
			askProof(t, 0, []api.Reason{split(0), split(1), full(a, b), many(), many()})
			askProof(t, 0, []api.Reason{{Kind: a, Street: b}, {Kind: b, Square: a}, {Kind: a, Step: b}})
			askProof(t, a, slices.Repeat([]api.Reason{split(b)}, 100000))
		}
		askProof(t, a, slices.Repeat([]api.Reason{many()}, 100000))
	}
	for _, text := range []string{"\x00", "\xff\xfe\n", strings.Repeat("\n", 4000), strings.Repeat(" ", 4000), "town" + strings.Repeat(" ", 3990) + "\n", head + "group \xff 0 1 0 1 5\nend 1\n"} {
		if town, _, e := crowd.Read(text); e == api.OK || !reflect.DeepEqual(town, api.Town{}) {
			t.Errorf("Read %q %v %v", text, town, e)
		}
	}
}

// askAll asks all functions about a town and closed streets, and looks for results beside an error.
func askAll(t *testing.T, x api.Town, closed []int, a, b int) {
	t.Helper()
	if l, isAway, e := crowd.Where(x, closed, a, b); e != api.OK && (len(l) > 0 || isAway) {
		t.Error("Where", x, closed, a, b, l, isAway, e)
	}
	if l, e := crowd.Loads(x, closed, a); e != api.OK && len(l) > 0 {
		t.Error("Loads", x, closed, a, l, e)
	}
	if l, e := crowd.Crushes(x, closed); e != api.OK && len(l) > 0 {
		t.Error("Crushes", x, closed, l, e)
	}
	if l, e := crowd.Close(x); e != api.OK && len(l) > 0 {
		t.Error("Close", x, l, e)
	}
	if l, e := crowd.Prove(x, a); e != api.OK && len(l) > 0 {
		t.Error("Prove", x, a, l, e)
	}
	if is, e := crowd.Proved(x, b, example()); e != api.OK && is {
		t.Error("Proved", x, b, is, e)
	}
	if l, e := crowd.Way(x, closed, a, b); e != api.OK && len(l) > 0 {
		t.Error("Way", x, closed, a, b, l, e)
	}
	if text, e := crowd.Write(x); e != api.OK && text != "" || e != crowd.Check(x) {
		t.Error("Write", x, text, e)
	}
}

// askProof asks about a list that is no proof.
func askProof(t *testing.T, most int, list []api.Reason) {
	t.Helper()
	is, e := crowd.Proved(plaza(), most, list)
	if e != api.OK && is || is != (e == api.OK && isProof(plaza(), most, streets{}, list[:min(len(list), 9)])) {
		t.Error(most, list[:min(len(list), 9)], is, e)
	}
}

// roomy is plaza with room behind all of its lists, which belongs to the caller.
func roomy() api.Town {
	x := plaza()
	x.Rooms = append(x.Rooms, 77, 77)[:3]
	x.Streets = append(x.Streets, api.Street{A: 77}, api.Street{A: 77})[:3]
	for i, g := range x.Groups {
		x.Groups[i].Path = append(g.Path, 77, 77)[:len(g.Path)]
	}
	x.Groups = append(x.Groups, api.Group{First: 77})[:2]
	return x
}

// isRoomy says whether nothing was written behind the lists.
func isRoomy(x api.Town) bool {
	is := x.Rooms[:5][3] == 77 && x.Rooms[:5][4] == 77 && x.Streets[:5][3].A == 77 && x.Streets[:5][4].A == 77 && x.Groups[:3][2].First == 77
	for _, g := range x.Groups {
		n := len(g.Path)
		is = is && g.Path[:n+2][n] == 77 && g.Path[:n+2][n+1] == 77
	}
	return is
}

// R4: arguments are not changed, not even behind their ends, and results are new memory.
func TestMemory(t *testing.T) {
	x, closed, proof := roomy(), append([]int{2}, 77, 77)[:1], append(example(), split(77))[:5]
	for range 2 { // a second time, after the results of the first one were changed
		askAll(t, x, closed, 1, 2)
		askAll(t, x, closed, 0, 1)
		squares, _, _ := crowd.Where(x, closed, 0, 2)
		spans, _ := crowd.Loads(x, closed, 1)
		list, _ := crowd.Crushes(x, closed)
		fewest, _ := crowd.Close(x)
		made, _ := crowd.Prove(x, 0)
		is, _ := crowd.Proved(x, 0, proof)
		way, _ := crowd.Way(x, closed, 0, 2)
		text, _ := crowd.Write(x)
		town, _, _ := crowd.Read(charter)
		if !slices.Equal(squares, []int{1}) || spans[0] != span(60, 110) || list[0] != (api.Crush{Step: 4, Square: 2, Most: 70}) || !slices.Equal(fewest, []int{0}) {
			t.Error(squares, spans, list, fewest)
		}
		if !slices.Equal(made, example()) || !is || !slices.Equal(way, []int{0, 1, 2}) || text != charter || !sameTown(town, plaza()) {
			t.Error(made, is, way, text, town)
		}
		overwrite(squares, 9)
		overwrite(spans, api.Span{})
		overwrite(list, api.Crush{})
		overwrite(fewest, 9)
		overwrite(made, api.Reason{})
		overwrite(way, 9)
		overwrite(town.Rooms, 9)
		overwrite(town.Streets, api.Street{})
		overwrite(town.Groups[0].Path, 9)
		overwrite(town.Groups, api.Group{})
	}
	if !sameTown(x, plaza()) || !isRoomy(x) || !slices.Equal(closed[:3], []int{2, 77, 77}) || !slices.Equal(proof, example()) || proof[:6][5] != split(77) {
		t.Error(x, closed[:3], proof[:6])
	}
}

// overwrite writes into a list, and behind its end.
func overwrite[T any](list []T, thing T) {
	_ = append(list, thing, thing, thing)
	for i := range list {
		list[i] = thing
	}
}

// R4: the lists of a result share no memory with each other.
func TestApart(t *testing.T) {
	x, _, _ := crowd.Read(charter)
	rooms := slices.Clone(x.Rooms)
	overwrite(x.Rooms, 9)
	x.Rooms = rooms
	list := slices.Clone(x.Streets)
	overwrite(x.Streets, api.Street{})
	x.Streets = list
	for i := range x.Groups {
		path := slices.Clone(x.Groups[i].Path)
		overwrite(x.Groups[i].Path, 9)
		x.Groups[i].Path = path
	}
	if !sameTown(x, plaza()) {
		t.Error(x)
	}
}

// R4: a nil slice and an empty one are equal.
func TestEmpty(t *testing.T) {
	for _, list := range [][]int{nil, {}} {
		for _, x := range []api.Town{
			{Rooms: []int{1}, Groups: []api.Group{{Size: one(2), Stay: 1, Path: list}}},
			{Rooms: []int{1}, Streets: []api.Street{}, Groups: []api.Group{{Size: one(2), Stay: 1, Path: list}}},
		} {
			squares, isAway, e := crowd.Where(x, list, 0, 0)
			crushes, e2 := crowd.Crushes(x, list)
			way, e3 := crowd.Way(x, list, 0, 0)
			text, e4 := crowd.Write(x)
			if !slices.Equal(squares, []int{0}) || isAway || !slices.Equal(crushes, []api.Crush{{Most: 2}}) || !slices.Equal(way, []int{0}) || text != "town 0\nsquare 1\ngroup 2 2 0 0 1 0\nend 1\n" || e+e2+e3+e4 != api.OK {
				t.Error(squares, isAway, crushes, way, text, e, e2, e3, e4)
			}
		}
		if e := crowd.Check(api.Town{Rooms: list}); e != api.ErrShort {
			t.Error(e)
		}
	}
	for _, list := range [][]api.Reason{nil, {}} {
		if is, e := crowd.Proved(room(0, 109), 0, list); is || e != api.OK {
			t.Error(is, e)
		}
	}
	for _, groups := range [][]api.Group{nil, {}} {
		x := api.Town{Rooms: []int{0, 0}, Streets: []api.Street{{A: 0, B: 1}}, Groups: groups}
		spans, e := crowd.Loads(x, nil, 0)
		closed, e2 := crowd.Close(x)
		if !slices.Equal(spans, make([]api.Span, 2)) || len(closed) > 0 || e+e2 != api.OK {
			t.Error(spans, closed, e, e2)
		}
	}
}

// R7: the greatest sums are exact.
func TestGreatest(t *testing.T) {
	x := greatest()
	spans, e := crowd.Loads(x, nil, 96)
	if want := append(make([]api.Span, 10), one(12000000), span(0, 0)); !slices.Equal(spans, want) || e != api.OK {
		t.Error(spans, e)
	}
	list, e := crowd.Crushes(x, []int{0, 1, 2, 3, 4, 5, 6, 7, 8, 9, 10, 11})
	if !slices.Equal(list, []api.Crush{{Step: 96, Square: 10, Most: 12000000}}) || e != api.OK {
		t.Error(list, e)
	}
	if l, e := crowd.Close(x); len(l) > 0 || e != api.ErrMissing {
		t.Error(l, e)
	}
	if l, e := crowd.Prove(x, 12); !slices.Equal(l, []api.Reason{full(10, 96)}) || e != api.OK {
		t.Error(l, e)
	}
	text, e := crowd.Write(x)
	town, row, e2 := crowd.Read(text)
	if len(text) > api.MaxCharter || !sameTown(town, x) || row != 0 || e+e2 != api.OK {
		t.Error(len(text), town, row, e, e2)
	}
}
