package crowd_test

import (
	"slices"
	"testing"

	"bateria/api"
	"bateria/crowd"
)

var towns = []struct {
	about  string
	change func(t *api.Town)
	want   api.Errno
}{
	{"the example", func(t *api.Town) {}, api.OK},
	{"nothing", func(t *api.Town) { *t = api.Town{} }, api.ErrShort},
	{"the least numbers", func(t *api.Town) { *t = api.Town{Rooms: []int{0}} }, api.OK},
	{"the greatest numbers", func(t *api.Town) { *t = greatest() }, api.OK},
	// squares
	{"no square", func(t *api.Town) { t.Rooms = nil }, api.ErrShort},
	{"as many squares as may be", func(t *api.Town) { t.Rooms = make([]int, 12) }, api.OK},
	{"too many squares", func(t *api.Town) { t.Rooms = make([]int, 13) }, api.ErrFull},
	{"too many squares before their rooms", func(t *api.Town) { t.Rooms = slices.Repeat([]int{-1}, 13) }, api.ErrFull},
	{"no room", func(t *api.Town) { t.Rooms[2] = 0 }, api.OK},
	{"a room below 0", func(t *api.Town) { t.Rooms[2] = -1 }, api.ErrRange},
	{"the greatest room", func(t *api.Town) { t.Rooms[2] = 1000000 }, api.OK},
	{"too great a room", func(t *api.Town) { t.Rooms[2] = 1000001 }, api.ErrRange},
	// streets
	{"no street", func(t *api.Town) { t.Streets, t.Groups = nil, nil }, api.OK},
	{"as many streets as may be", func(t *api.Town) { t.Streets = slices.Repeat(t.Streets, 4) }, api.OK},
	{"too many streets", func(t *api.Town) { t.Streets = append(slices.Repeat(t.Streets, 4), api.Street{A: 0, B: 1}) }, api.ErrFull},
	{"too many streets before where they are", func(t *api.Town) { t.Streets = make([]api.Street, 13) }, api.ErrFull},
	{"a room before too many streets", func(t *api.Town) { t.Rooms[0], t.Streets = -1, make([]api.Street, 13) }, api.ErrRange},
	{"a street from a square below 0", func(t *api.Town) { t.Streets[1].A = -1 }, api.ErrMissing},
	{"a street from a square that is not", func(t *api.Town) { t.Streets[1].A = 3 }, api.ErrMissing},
	{"a street to a square below 0", func(t *api.Town) { t.Streets[1].B = -1 }, api.ErrMissing},
	{"a street to a square that is not", func(t *api.Town) { t.Streets[1].B = 3 }, api.ErrMissing},
	{"a street the other way", func(t *api.Town) { t.Streets[1] = api.Street{A: 2, B: 1} }, api.OK},
	{"a street twice", func(t *api.Town) { t.Streets = append(t.Streets, t.Streets[0]) }, api.OK},
	{"a street to where it begins", func(t *api.Town) { t.Streets[1] = api.Street{A: 2, B: 2} }, api.ErrForm},
	{"a square that is not before a street to where it begins", func(t *api.Town) { t.Streets[1] = api.Street{A: 3, B: 3} }, api.ErrMissing},
	{"one street before the next one", func(t *api.Town) { t.Streets = []api.Street{{A: 1, B: 1}, {A: 0, B: 3}} }, api.ErrForm},
	{"one street before the next one, the other way", func(t *api.Town) { t.Streets = []api.Street{{A: 0, B: 3}, {A: 1, B: 1}} }, api.ErrMissing},
	// steps
	{"the only step is 0", func(t *api.Town) { t.Steps = 0 }, api.OK},
	{"steps below 0", func(t *api.Town) { t.Steps = -1 }, api.ErrRange},
	{"the greatest step", func(t *api.Town) { t.Steps = 96 }, api.OK},
	{"too great a step", func(t *api.Town) { t.Steps = 97 }, api.ErrRange},
	{"a street before the steps", func(t *api.Town) { t.Streets[2].B, t.Steps = 0, 97 }, api.ErrForm},
	{"the steps before too many groups", func(t *api.Town) { t.Steps, t.Groups = 97, make([]api.Group, 13) }, api.ErrRange},
	// how many groups
	{"no group", func(t *api.Town) { t.Groups = nil }, api.OK},
	{"as many groups as may be", func(t *api.Town) { t.Groups = slices.Repeat(t.Groups, 6) }, api.OK},
	{"too many groups", func(t *api.Town) { t.Groups = append(slices.Repeat(t.Groups, 6), t.Groups[0]) }, api.ErrFull},
	{"too many groups before what they are", func(t *api.Town) { t.Groups = make([]api.Group, 13) }, api.ErrFull},
	// the size of a group
	{"a size that may be 0", func(t *api.Town) { t.Groups[1].Size.Lo = 0 }, api.OK},
	{"a size below 0", func(t *api.Town) { t.Groups[1].Size.Lo = -1 }, api.ErrRange},
	{"a size of nobody", func(t *api.Town) { t.Groups[1].Size = one(0) }, api.OK},
	{"the greatest size", func(t *api.Town) { t.Groups[1].Size = one(1000000) }, api.OK},
	{"too great a size", func(t *api.Town) { t.Groups[1].Size.Hi = 1000001 }, api.ErrRange},
	{"a size the wrong way", func(t *api.Town) { t.Groups[1].Size = span(40, 39) }, api.ErrOrder},
	{"a size below 0, the wrong way", func(t *api.Town) { t.Groups[1].Size = span(0, -1) }, api.ErrRange},
	{"too great a size, the wrong way", func(t *api.Town) { t.Groups[1].Size = span(1000001, 0) }, api.ErrRange},
	{"the size before the step", func(t *api.Town) { t.Groups[1].Size, t.Groups[1].At = span(40, 39), one(97) }, api.ErrOrder},
	// the step of a group
	{"a step below 0", func(t *api.Town) { t.Groups[1].At.Lo = -1 }, api.ErrRange},
	{"the greatest step at which a group comes", func(t *api.Town) { t.Groups[1].At = span(0, 96) }, api.OK},
	{"a group that comes too late", func(t *api.Town) { t.Groups[1].At.Hi = 97 }, api.ErrRange},
	{"a step the wrong way", func(t *api.Town) { t.Groups[1].At = span(3, 2) }, api.ErrOrder},
	{"the step before the stay", func(t *api.Town) { t.Groups[1].At, t.Groups[1].Stay = span(3, 2), 0 }, api.ErrOrder},
	// the stay of a group
	{"no stay", func(t *api.Town) { t.Groups[1].Stay = 0 }, api.ErrRange},
	{"a stay below 0", func(t *api.Town) { t.Groups[1].Stay = -1 }, api.ErrRange},
	{"the greatest stay", func(t *api.Town) { t.Groups[1].Stay = 96 }, api.OK},
	{"too great a stay", func(t *api.Town) { t.Groups[1].Stay = 97 }, api.ErrRange},
	{"the stay before the first square", func(t *api.Town) { t.Groups[1].Stay, t.Groups[1].First = 0, 3 }, api.ErrRange},
	// the squares of a group
	{"a first square below 0", func(t *api.Town) { t.Groups[1].First = -1 }, api.ErrMissing},
	{"a first square that is not", func(t *api.Town) { t.Groups[1].First = 3 }, api.ErrMissing},
	{"the first square before too long a path", func(t *api.Town) { t.Groups[1].First, t.Groups[1].Path = 3, make([]int, 13) }, api.ErrMissing},
	{"no path", func(t *api.Town) { t.Groups[1].Path = nil }, api.OK},
	{"as long a path as may be", func(t *api.Town) { t.Groups[1].Path = slices.Repeat([]int{2}, 12) }, api.OK},
	{"too long a path", func(t *api.Town) { t.Groups[1].Path = slices.Repeat([]int{2}, 13) }, api.ErrFull},
	{"too long a path before its streets", func(t *api.Town) { t.Groups[1].Path = slices.Repeat([]int{9}, 13) }, api.ErrFull},
	{"a street below 0 in a path", func(t *api.Town) { t.Groups[1].Path = []int{-1} }, api.ErrMissing},
	{"a street that is not in a path", func(t *api.Town) { t.Groups[1].Path = []int{2, 3} }, api.ErrMissing},
	{"the first street of a path begins elsewhere", func(t *api.Town) { t.Groups[1].Path = []int{1} }, api.ErrForm},
	{"the next street of a path begins elsewhere", func(t *api.Town) { t.Groups[1].Path = []int{2, 0} }, api.ErrForm},
	{"the next street of a path begins where the one before began", func(t *api.Town) { t.Groups[0].Path = []int{0, 2} }, api.ErrForm},
	{"streets from their other ends", func(t *api.Town) { t.Groups[1].Path = []int{2, 1, 0} }, api.OK},
	{"a street to and fro and to", func(t *api.Town) { t.Groups[1].Path = []int{2, 2, 2, 1} }, api.OK},
	{"one street of a path before the next one", func(t *api.Town) { t.Groups[1].Path = []int{2, 0, 3} }, api.ErrForm},
	{"one street of a path before the next one, the other way", func(t *api.Town) { t.Groups[1].Path = []int{2, 3, 0} }, api.ErrMissing},
	{"one group before the next one", func(t *api.Town) { t.Groups[0].Path, t.Groups[1].Size.Hi = []int{3}, -1 }, api.ErrMissing},
	{"one group before the next one, the other way", func(t *api.Town) { t.Groups[0].Size.Hi, t.Groups[1].Path = -1, []int{3} }, api.ErrRange},
}

var closings = []struct {
	about  string
	closed []int
	want   api.Errno
}{
	{"none", nil, api.OK},
	{"one", []int{1}, api.OK},
	{"all", []int{0, 1, 2}, api.OK},
	{"a street below 0", []int{-1}, api.ErrMissing},
	{"a street that is not", []int{3}, api.ErrMissing},
	{"a street that is not, behind another one", []int{0, 3}, api.ErrMissing},
	{"a street twice", []int{1, 1}, api.ErrOrder},
	{"the wrong order", []int{2, 1}, api.ErrOrder},
	{"the wrong order behind the right one", []int{0, 2, 1}, api.ErrOrder},
	{"the wrong order before a street that is not", []int{1, 0, 3}, api.ErrOrder},
	{"a street that is not before the wrong order", []int{1, 3, 0}, api.ErrMissing},
	{"a street that is not, twice", []int{3, 3}, api.ErrMissing},
	{"a street below 0 in the wrong order", []int{1, -1}, api.ErrMissing},
}

// errors are the errors of all functions that look at a town and closed streets; the other arguments are wrong.
func errors(t api.Town, closed []int) map[string]api.Errno {
	all := map[string]api.Errno{}
	_, _, all["Where"] = crowd.Where(t, closed, 99, 99)
	_, all["Loads"] = crowd.Loads(t, closed, 99)
	_, all["Crushes"] = crowd.Crushes(t, closed)
	_, all["Way"] = crowd.Way(t, closed, 99, 99)
	return all
}

// P6.1 and what the other contracts say of errors: Check, and the error that all functions return first.
func TestCheck(t *testing.T) {
	for _, x := range towns {
		town := changed(x.change)
		all := errors(town, []int{99})
		_, all["Prove"] = crowd.Prove(town, 99)
		_, all["Proved"] = crowd.Proved(town, -1, nil)
		all["Check"] = crowd.Check(town)
		_, all["Write"] = crowd.Write(town)
		if x.want != api.OK {
			_, all["Close"] = crowd.Close(town)
		}
		for name, e := range all {
			want := x.want
			switch {
			case want != api.OK || name == "Check" || name == "Write":
			case name == "Prove" || name == "Proved":
				want = api.ErrRange
			default: // a town that is valid lets the closed streets be looked at
				want = api.ErrMissing
			}
			if e != want {
				t.Error(x.about, name, e)
			}
		}
	}
}

// P6.1, P6.2 and P6.5: the error of closed streets, and those that come behind it.
func TestClosed(t *testing.T) {
	for _, x := range closings {
		for name, e := range errors(plaza(), x.closed) {
			want := x.want
			switch {
			case want != api.OK || name == "Crushes":
			case name == "Loads":
				want = api.ErrRange
			default:
				want = api.ErrMissing
			}
			if e != want {
				t.Error(x.about, name, e)
			}
		}
	}
}

// P6.1: Where.
func TestWhere(t *testing.T) {
	for _, x := range []struct {
		about       string
		closed      []int
		group, step int
		want        []int
		away        bool
		e           api.Errno
	}{
		{"it has just come", nil, 0, 0, []int{0}, false, api.OK},
		{"at the end of its stay", nil, 0, 1, []int{0}, false, api.OK},
		{"behind its first street", nil, 0, 2, []int{1}, false, api.OK},
		{"the first example", nil, 0, 3, []int{1}, false, api.OK},
		{"at the end of its path", nil, 0, 5, []int{2}, false, api.OK},
		{"it has gone home", nil, 0, 6, nil, true, api.OK},
		{"it has not come", nil, 1, 0, nil, true, api.OK},
		{"it may have come", nil, 1, 1, []int{0}, true, api.OK},
		{"in one square, or the next one", nil, 1, 2, []int{0, 2}, false, api.OK},
		{"it may have gone home", nil, 1, 3, []int{2}, true, api.OK},
		{"it has gone home, whenever it came", nil, 1, 4, nil, true, api.OK},
		{"before a closed street", []int{1}, 0, 6, []int{1}, false, api.OK},
		{"not yet before the closed street", []int{1}, 0, 1, []int{0}, false, api.OK},
		{"before the first of two closed streets", []int{0, 1}, 0, 6, []int{0}, false, api.OK},
		{"another street is closed", []int{2}, 0, 6, nil, true, api.OK},
		{"before its only street", []int{2}, 1, 6, []int{0}, false, api.OK},
		{"before its only street, if it has come", []int{2}, 1, 1, []int{0}, true, api.OK},
		{"a group below 0", nil, -1, 0, nil, false, api.ErrMissing},
		{"a group that is not", nil, 2, 0, nil, false, api.ErrMissing},
		{"a group that is not before the step", nil, 2, 7, nil, false, api.ErrMissing},
		{"a step below 0", nil, 0, -1, nil, false, api.ErrRange},
		{"too great a step", nil, 0, 7, nil, false, api.ErrRange},
		{"closed streets before the group", []int{1, 1}, 2, 0, nil, false, api.ErrOrder},
		{"closed streets before the step", []int{3}, 0, 7, nil, false, api.ErrMissing},
	} {
		if l, away, e := crowd.Where(plaza(), x.closed, x.group, x.step); !slices.Equal(l, x.want) || away != x.away || e != x.e {
			t.Error(x.about, l, away, e)
		}
	}
}

// P6.1: Where, for a group that may have come long ago, or not yet, and goes along a street again and again.
func TestWhereFro(t *testing.T) {
	town := api.Town{Rooms: make([]int, 3), Streets: []api.Street{{A: 2, B: 0}, {A: 1, B: 0}}, Steps: 40, Groups: []api.Group{{At: span(3, 20), Stay: 4, First: 2, Path: []int{0, 0, 0, 1}}}}
	for _, x := range []struct {
		closed []int
		step   int
		want   []int
		away   bool
	}{
		{nil, 2, nil, true},
		{nil, 3, []int{2}, true},
		{nil, 6, []int{2}, true},
		{nil, 7, []int{0, 2}, true},
		{nil, 18, []int{0, 2}, true},
		{nil, 19, []int{0, 1, 2}, true},
		{nil, 20, []int{0, 1, 2}, false},
		{nil, 22, []int{0, 1, 2}, false},
		{nil, 23, []int{0, 1, 2}, true},
		{nil, 31, []int{0, 1, 2}, true},
		{nil, 32, []int{0, 1}, true},
		{nil, 36, []int{1}, true},
		{nil, 39, []int{1}, true},
		{nil, 40, nil, true},
		{[]int{1}, 19, []int{0, 2}, true},
		{[]int{1}, 20, []int{0, 2}, false},
		{[]int{1}, 32, []int{0}, false},
		{[]int{0}, 19, []int{2}, true},
		{[]int{0}, 40, []int{2}, false},
	} {
		if l, away, e := crowd.Where(town, x.closed, 0, x.step); !slices.Equal(l, x.want) || away != x.away || e != api.OK {
			t.Error(x.closed, x.step, l, away, e)
		}
	}
}

// P6.2: Loads.
func TestLoads(t *testing.T) {
	for _, x := range []struct {
		about  string
		closed []int
		step   int
		want   []api.Span
		e      api.Errno
	}{
		{"the first step", nil, 0, []api.Span{span(60, 70), {}, {}}, api.OK},
		{"the first example", nil, 1, []api.Span{span(60, 110), {}, {}}, api.OK},
		{"one or the other square", nil, 2, []api.Span{span(0, 40), span(60, 70), span(0, 40)}, api.OK},
		{"the second example", nil, 4, []api.Span{{}, {}, span(60, 70)}, api.OK},
		{"the last step", nil, 6, []api.Span{{}, {}, {}}, api.OK},
		{"a closed street", []int{0}, 2, []api.Span{span(60, 110), {}, span(0, 40)}, api.OK},
		{"two closed streets", []int{0, 2}, 5, []api.Span{span(80, 110), {}, {}}, api.OK},
		{"a step below 0", nil, -1, nil, api.ErrRange},
		{"too great a step", nil, 7, nil, api.ErrRange},
		{"closed streets before the step", []int{3}, 7, nil, api.ErrMissing},
	} {
		if l, e := crowd.Loads(plaza(), x.closed, x.step); !slices.Equal(l, x.want) || e != x.e {
			t.Error(x.about, l, e)
		}
	}
	empty := api.Town{Rooms: []int{1, 0}, Steps: 1}
	if l, e := crowd.Loads(empty, nil, 1); !slices.Equal(l, []api.Span{{}, {}}) || e != api.OK {
		t.Error("nobody comes:", l, e)
	}
}

// P6.2: Crushes.
func TestCrushes(t *testing.T) {
	for _, x := range []struct {
		about  string
		town   api.Town
		closed []int
		want   []api.Crush
	}{
		{"the first example", plaza(), nil, []api.Crush{{Step: 4, Square: 2, Most: 70}, {Step: 5, Square: 2, Most: 70}}},
		{"the second example", plaza(), []int{0}, nil},
		{"just enough room", room(2, 70), nil, nil},
		{"not enough room for one", room(2, 69), nil, []api.Crush{{Step: 4, Square: 2, Most: 70}, {Step: 5, Square: 2, Most: 70}}},
		{"until the last step", room(1, 60), []int{1}, []api.Crush{{Step: 2, Square: 1, Most: 70}, {Step: 3, Square: 1, Most: 70}, {Step: 4, Square: 1, Most: 70}, {Step: 5, Square: 1, Most: 70}, {Step: 6, Square: 1, Most: 70}}},
		{"from the first step on", room(0, 39), []int{1}, []api.Crush{{Step: 0, Most: 70}, {Step: 1, Most: 110}, {Step: 2, Most: 40}}},
		{"more squares in a step", changed(func(t *api.Town) { t.Rooms = make([]int, 3) }), []int{1, 2}, []api.Crush{{Step: 0, Most: 70}, {Step: 1, Most: 110}, {Step: 2, Most: 40}, {Step: 2, Square: 1, Most: 70}, {Step: 3, Most: 40}, {Step: 3, Square: 1, Most: 70}, {Step: 4, Most: 40}, {Step: 4, Square: 1, Most: 70}, {Step: 5, Most: 40}, {Step: 5, Square: 1, Most: 70}, {Step: 6, Most: 40}, {Step: 6, Square: 1, Most: 70}}},
	} {
		if l, e := crowd.Crushes(x.town, x.closed); !slices.Equal(l, x.want) || e != api.OK {
			t.Error(x.about, l, e)
		}
	}
}

// twice is plaza after a change by which two streets have to be closed.
func twice(rooms ...int) api.Town {
	return changed(func(t *api.Town) { t.Rooms, t.Groups[1].At = rooms, one(3) })
}

// P6.3: Close.
func TestClose(t *testing.T) {
	for _, x := range []struct {
		about string
		town  api.Town
		want  []int
		e     api.Errno
	}{
		{"the first example", plaza(), []int{0}, api.OK},
		{"the second example", room(0, 109), nil, api.ErrMissing},
		{"the third example", room(2, 70), nil, api.OK},
		{"not enough room for one", room(2, 69), []int{0}, api.OK},
		{"the first one would not help", changed(func(t *api.Town) { t.Rooms[0], t.Groups[1].At = 70, one(3) }), []int{1}, api.OK},
		{"the first two of three", twice(110, 80, 39), []int{0, 2}, api.OK},
		{"the last two of three", twice(109, 80, 39), []int{1, 2}, api.OK},
		{"no two of three", twice(109, 69, 39), nil, api.ErrMissing},
		{"all streets", api.Town{Rooms: []int{5, 0}, Streets: []api.Street{{A: 0, B: 1}}, Steps: 1, Groups: []api.Group{{Size: one(5), Stay: 1, Path: []int{0}}}}, []int{0}, api.OK},
		{"one by which nobody goes is not closed", api.Town{Rooms: []int{5, 0}, Streets: []api.Street{{A: 0, B: 1}, {A: 0, B: 1}}, Steps: 1, Groups: []api.Group{{Size: one(5), Stay: 1, Path: []int{1}}}}, []int{1}, api.OK},
		{"nobody comes before the last step", api.Town{Rooms: []int{4}, Steps: 9, Groups: []api.Group{{Size: one(5), At: one(10), Stay: 1}}}, nil, api.OK},
		{"who comes in the last step", api.Town{Rooms: []int{4}, Steps: 10, Groups: []api.Group{{Size: one(5), At: one(10), Stay: 1}}}, nil, api.ErrMissing},
		{"no street", api.Town{Rooms: []int{0}}, nil, api.OK},
		{"no street would help", api.Town{Rooms: []int{4}, Groups: []api.Group{{Size: span(0, 5), Stay: 1}}}, nil, api.ErrMissing},
	} {
		if l, e := crowd.Close(x.town); !slices.Equal(l, x.want) || e != x.e {
			t.Error(x.about, l, e)
		}
	}
}

// example is the proof of the chapter.
func example() []api.Reason { return []api.Reason{split(0), split(1), full(2, 4), many(), many()} }

// P6.4: Prove.
func TestProve(t *testing.T) {
	for _, x := range []struct {
		about string
		town  api.Town
		most  int
		want  []api.Reason
		e     api.Errno
	}{
		{"the first example", plaza(), 0, example(), api.OK},
		{"the second example", room(0, 109), 3, []api.Reason{full(0, 1)}, api.OK},
		{"the third example", plaza(), 1, nil, api.ErrMissing},
		{"more streets than there are", plaza(), 12, nil, api.ErrMissing},
		{"more streets than there are, of which none helps", room(0, 109), 12, []api.Reason{full(0, 1)}, api.OK},
		{"less than no street", plaza(), -1, nil, api.ErrRange},
		{"too many streets", plaza(), 13, nil, api.ErrRange},
		{"too many streets, of which none helps", room(0, 109), 13, nil, api.ErrRange},
		{"one street is too few", twice(110, 80, 39), 1, []api.Reason{split(0), split(1), full(2, 4), split(2), full(2, 4), many(), split(1), split(2), full(2, 4), many(), many()}, api.OK},
		{"the first step, in it the first square", changed(func(t *api.Town) { t.Rooms = make([]int, 3) }), 0, []api.Reason{full(0, 0)}, api.OK},
		{"streets by which nobody goes are split, too", changed(func(t *api.Town) { t.Groups[0].Path = []int{2}; t.Rooms[2] = 39 }), 0, []api.Reason{split(0), split(1), split(2), full(2, 2), many(), many(), many()}, api.OK},
		{"a square is too full as soon as a street is closed", twice(109, 80, 39), 1, []api.Reason{split(0), split(1), full(2, 4), split(2), full(2, 4), many(), full(0, 3)}, api.OK},
		{"too many are closed before a square is too full", twice(109, 80, 39), 0, []api.Reason{split(0), split(1), full(2, 4), many(), many()}, api.OK},
	} {
		if l, e := crowd.Prove(x.town, x.most); !slices.Equal(l, x.want) || e != x.e {
			t.Error(x.about, l, e)
		}
	}
}

// P6.4: how long a proof may be. Its number of reasons is never even, so there is none of just as many as may be.
func TestLongProof(t *testing.T) {
	for _, x := range []struct {
		town         api.Town
		most, length int
		e            api.Errno
	}{
		{dense(), 4, 3171, api.OK},
		{dense(4, 8), 5, 4999, api.OK},
		{dense(4, 9), 5, 5001, api.ErrFull},
		{dense(), 5, 5019, api.ErrFull},
		{dense(), 12, 8191, api.ErrFull},
	} {
		want := proofOf(x.town, x.most, streets{})
		if len(want) != x.length {
			t.Error("another length:", len(want), x.length)
		}
		if is, e := crowd.Proved(x.town, x.most, want); !is || e != api.OK {
			t.Error(x.length, is, e)
		}
		if x.e != api.OK {
			want = nil
		}
		if l, e := crowd.Prove(x.town, x.most); !slices.Equal(l, want) || e != x.e {
			t.Error(x.length, len(l), e)
		}
	}
	helps := dense()
	helps.Rooms[1] = 1
	if l, e := crowd.Prove(helps, 12); len(l) > 0 || e != api.ErrMissing {
		t.Error("a choice that helps before too long a proof:", len(l), e)
	}
}

// P6.4: Proved.
func TestProved(t *testing.T) {
	changedAt := func(at int, r api.Reason) []api.Reason {
		l := example()
		l[at] = r
		return l
	}
	for _, x := range []struct {
		about string
		most  int
		proof []api.Reason
		want  bool
	}{
		{"the first example", 0, example(), true},
		{"the second example", 1, example(), false},
		{"the third example", 0, example()[:4], false},
		{"nothing", 0, nil, false},
		{"without the first reason", 0, example()[1:], false},
		{"one reason more", 0, append(example(), many()), false},
		{"a proof and a proof", 0, append(example(), example()...), false},
		{"another order of streets", 0, []api.Reason{split(1), split(0), full(2, 4), many(), many()}, true},
		{"another step", 0, changedAt(2, full(2, 5)), true},
		{"another street, too", 0, []api.Reason{split(2), split(1), split(0), full(2, 4), many(), many(), many()}, true},
		{"a street is split that is closed", 0, changedAt(4, split(0)), false},
		{"a street is split twice", 0, changedAt(1, split(0)), false},
		{"a street is split behind its split", 0, []api.Reason{split(0), split(1), split(1), full(2, 4), many(), many(), many()}, false},
		{"a street below 0", 0, changedAt(0, split(-1)), false},
		{"a street that is not", 0, []api.Reason{split(0), split(3), full(2, 4), many(), many()}, false},
		{"a square that is not too full", 0, changedAt(2, full(1, 4)), false},
		{"a step in which it is not too full", 0, changedAt(2, full(2, 3)), false},
		{"a square below 0", 0, changedAt(2, full(-1, 4)), false},
		{"a square that is not", 0, changedAt(2, full(3, 4)), false},
		{"a step below 0", 0, changedAt(2, full(2, -1)), false},
		{"too great a step", 0, changedAt(2, full(2, 7)), false},
		{"not all streets are decided", 0, []api.Reason{split(0), full(2, 4), many()}, false},
		{"not too many are closed", 0, changedAt(2, many()), false},
		{"no street is closed", 0, []api.Reason{many()}, false},
		{"too full where too many are closed", 0, changedAt(3, full(2, 4)), false},
		{"a split has a square", 0, changedAt(0, api.Reason{Kind: 1, Square: 1}), false},
		{"a split has a step", 0, changedAt(0, api.Reason{Kind: 1, Step: 1}), false},
		{"a full square has a street", 0, changedAt(2, api.Reason{Kind: 2, Street: 1, Square: 2, Step: 4}), false},
		{"many have a street", 0, changedAt(3, api.Reason{Kind: 3, Street: 1}), false},
		{"many have a square", 0, changedAt(3, api.Reason{Kind: 3, Square: 1}), false},
		{"many have a step", 0, changedAt(3, api.Reason{Kind: 3, Step: 1}), false},
		{"a kind that is not", 0, changedAt(3, api.Reason{Kind: 4}), false},
		{"the kind 0", 0, changedAt(3, api.Reason{}), false},
		{"a kind below 0", 0, []api.Reason{{Kind: -1}}, false},
	} {
		if is, e := crowd.Proved(plaza(), x.most, x.proof); is != x.want || e != api.OK {
			t.Error(x.about, is, e)
		}
	}
	for _, most := range []int{-1, 13} {
		if is, e := crowd.Proved(room(0, 109), most, []api.Reason{full(0, 1)}); is || e != api.ErrRange {
			t.Error(most, is, e)
		}
	}
	for _, most := range []int{0, 3, 4, 12} {
		if is, e := crowd.Proved(room(0, 109), most, []api.Reason{full(0, 1)}); !is || e != api.OK {
			t.Error(most, is, e)
		}
	}
}

// P6.5: Way.
func TestWay(t *testing.T) {
	ring := api.Town{Rooms: make([]int, 6), Streets: []api.Street{{A: 0, B: 3}, {A: 3, B: 5}, {A: 5, B: 1}, {A: 1, B: 0}, {A: 5, B: 3}, {A: 2, B: 5}}}
	for _, x := range []struct {
		about    string
		town     api.Town
		closed   []int
		from, to int
		want     []int
		e        api.Errno
	}{
		{"the first example", plaza(), nil, 0, 2, []int{0, 2}, api.OK},
		{"the second example", plaza(), []int{2}, 0, 2, []int{0, 1, 2}, api.OK},
		{"the third example", plaza(), []int{1, 2}, 0, 2, nil, api.ErrMissing},
		{"back", plaza(), []int{2}, 2, 0, []int{2, 1, 0}, api.OK},
		{"from a square to itself", plaza(), nil, 1, 1, []int{1}, api.OK},
		{"from a square to itself without streets", plaza(), []int{0, 1, 2}, 1, 1, []int{1}, api.OK},
		{"the first of two ways", ring, nil, 0, 5, []int{0, 1, 5}, api.OK},
		{"the first of two ways is closed", ring, []int{2}, 0, 5, []int{0, 3, 5}, api.OK},
		{"one of two streets between squares is closed", ring, []int{1, 2}, 0, 2, []int{0, 3, 5, 2}, api.OK},
		{"both are closed", ring, []int{1, 2, 4}, 0, 2, nil, api.ErrMissing},
		{"the first of two ways, from the other end", ring, nil, 2, 0, []int{2, 5, 1, 0}, api.OK},
		{"no street leads from there", ring, nil, 4, 0, nil, api.ErrMissing},
		{"no street leads there", ring, nil, 0, 4, nil, api.ErrMissing},
		{"from a square below 0", plaza(), nil, -1, 0, nil, api.ErrMissing},
		{"from a square that is not", plaza(), nil, 3, 0, nil, api.ErrMissing},
		{"to a square below 0", plaza(), nil, 0, -1, nil, api.ErrMissing},
		{"to a square that is not", plaza(), nil, 0, 3, nil, api.ErrMissing},
		{"from a square that is not to itself", plaza(), nil, 3, 3, nil, api.ErrMissing},
		{"closed streets before the squares", plaza(), []int{1, 1}, 0, 3, nil, api.ErrOrder},
	} {
		if l, e := crowd.Way(x.town, x.closed, x.from, x.to); !slices.Equal(l, x.want) || e != x.e {
			t.Error(x.about, l, e)
		}
	}
}
