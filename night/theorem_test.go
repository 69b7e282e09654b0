package night_test

import (
	"math/rand/v2"
	"slices"
	"strings"
	"testing"

	"bateria/api"
	"bateria/band"
	"bateria/coin"
	"bateria/marks"
	"bateria/night"
	"bateria/parade"
)

// P10.1, P10.2, P10.10 and P10.11: replies, desks and reports are those of the model, which asks the layers of its desk.
func TestModel(t *testing.T) {
	replied, refused := map[string]int{}, map[string]int{}
	for _, x := range trials(1, 1500) {
		c := clerk{x: x.x}
		for i, reply := range run(t, x.x, x.lines) {
			if want := c.reply(x.lines[i]); reply != want {
				t.Fatal(x, i, reply, want)
			}
			if isRefused(reply) {
				refused[wordOf(x.lines[i])+reply[5:]]++
				continue
			}
			replied[wordOf(x.lines[i])]++
		}
		if d := keep(t, x.x, x.lines); !sameDesk(d, c.d) {
			t.Fatal(x, d, c.d)
		}
		if text := report(t, x.x, x.lines); text != told(x.x, c.d) {
			t.Fatal(x, text, told(x.x, c.d))
		}
	}
	for word := range takes {
		if replied[word] < 100 {
			t.Error("few replies:", word, replied)
		}
	}
	for _, kind := range strings.Split("at 1; at 2; wing 2; wing 11; wing 12; place 7; gap 7; lasts 11; open 2; open 10; open 14; absent 4; absent 7; absent 10; fine 2; fine 7; table 11; band 10; band 11; band 12; band 13; heard 7; sleep 7; bill 2; bill 4; left 7; trace 7", "; ") {
		if refused[kind] < 10 {
			t.Error("few errors:", kind, refused)
		}
	}
}

// P10.3: a script is replayed to the same; there are as many replies as lines (run looks for that); what fewer lines reply is the beginning of what all reply.
func TestReplayed(t *testing.T) {
	for _, x := range trials(2, 200) {
		all := run(t, x.x, x.lines)
		if !slices.Equal(run(t, x.x, x.lines), all) || !sameDesk(keep(t, x.x, x.lines), keep(t, x.x, x.lines)) || report(t, x.x, x.lines) != report(t, x.x, x.lines) {
			t.Error("another time:", x)
		}
		for i := range x.lines {
			if replies := run(t, x.x, x.lines[:i]); !slices.Equal(replies, all[:i]) {
				t.Error(x, i, replies, all)
			}
		}
	}
}

// P10.4: lines that are refused, and lines that ask alone, can be left out, all of them or some.
func TestRefused(t *testing.T) {
	pick := rand.New(rand.NewPCG(3, 10))
	left := 0
	for _, x := range trials(4, 300) {
		replies := run(t, x.x, x.lines)
		for often := range 3 {
			var lines []string
			for i, line := range x.lines {
				if idle := isRefused(replies[i]) || slices.Contains(asking, wordOf(line)); !idle || pick.IntN(3) < often {
					lines = append(lines, line)
				}
			}
			if !sameDesk(keep(t, x.x, lines), keep(t, x.x, x.lines)) || report(t, x.x, lines) != report(t, x.x, x.lines) {
				t.Error(x, lines)
			}
			left += len(x.lines) - len(lines)
		}
	}
	if left < 10000 {
		t.Error("few lines were left out:", left)
	}
}

// P10.5: lines of the parade, of the marks, of the bands and of the money do not touch each other.
func TestApart(t *testing.T) {
	for _, x := range trials(5, 500) {
		replies := run(t, x.x, x.lines)
		for _, family := range families {
			words := append([]string{"at"}, family...)
			var want []string
			for i, line := range x.lines {
				if slices.Contains(words, wordOf(line)) {
					want = append(want, replies[i])
				}
			}
			if own := run(t, x.x, those(x.lines, words...)); !slices.Equal(own, want) {
				t.Error(x, family, own, want)
			}
		}
	}
}

// gone is the least second, from that of the first start on, in which the tail of the last one of the wings that started has surely passed the gate: second by second, with the least paces.
func gone(s api.School, starts []int) int {
	for second := starts[0]; ; second++ {
		tail := 0
		for i, start := range starts {
			front := s.Wings[i].Pace.Lo * (second - start)
			if i > 0 {
				front = min(front, tail)
			}
			tail = front - s.Wings[i].Length
		}
		if tail >= 0 {
			return second
		}
	}
}

// P10.6: all wings that started could start when they did, the starts are valid for the school, and a next wing cannot start before.
func TestInARow(t *testing.T) {
	next := 0
	for _, x := range trials(6, 1000) {
		starts := keep(t, x.x, x.lines).Starts
		var lines []string
		for i, start := range starts {
			if i > 0 && start < gone(x.x.School, starts[:i]) || start > starts[0]+20000 {
				t.Error(x, starts)
			}
			lines = append(lines, "at "+said(start), "wing")
		}
		if d := keep(t, x.x, lines); !slices.Equal(d.Starts, starts) {
			t.Error(x, d, starts)
		}
		if len(starts) == 0 {
			continue
		}
		s, shifted, _ := started(x.x, starts, 0)
		if e := parade.CheckStarts(s, shifted); e != api.OK {
			t.Error(x, starts, e)
		}
		first := gone(x.x.School, starts)
		if len(starts) == len(x.x.School.Wings) || first == starts[len(starts)-1] || first > min(starts[0]+20000, api.MaxClock) {
			continue
		}
		replies := run(t, x.x, append(lines, "at "+said(first-1), "wing", "at "+said(first), "wing"))
		if !slices.Equal(replies[len(lines):], []string{"ok", "error 12", "ok", "ok"}) {
			t.Error(x, starts, replies)
		}
		next++
	}
	if next < 300 {
		t.Error("few next wings:", next)
	}
}

// P10.7: if envelopes, absences and fines come in another order, places and totals are the same.
func TestOpened(t *testing.T) {
	pick := rand.New(rand.NewPCG(7, 10))
	decided := 0
	for _, x := range trials(8, 300) {
		replies := run(t, x.x, x.lines)
		var lines []string
		for i, line := range x.lines {
			if replies[i] == "ok" && slices.Contains([]string{"open", "absent", "fine"}, wordOf(line)) {
				lines = append(lines, line)
			}
		}
		for range 5 {
			other := mixed(pick, lines)
			asks := []string{"places", "winner", "table"}
			ours, theirs := run(t, x.x, slices.Concat(lines, asks)), run(t, x.x, slices.Concat(other, asks))
			if !slices.Equal(ours, theirs) || report(t, x.x, lines) != report(t, x.x, other) {
				t.Error(x, lines, other, ours, theirs)
			}
			if !isRefused(ours[len(ours)-1]) {
				decided++
			}
		}
	}
	if decided < 200 {
		t.Error("few nights are decided:", decided)
	}
}

// P10.8: no two bands that were granted cross, each square sleeps as long as it is owed, and has room for each band.
func TestStreets(t *testing.T) {
	pairs := 0
	for _, x := range trials(9, 500) {
		bands := keep(t, x.x, x.lines).Bands
		for i, a := range bands {
			for _, b := range bands[:i] {
				if verdict, e := band.Cross(x.x.City, a, b); verdict != api.Never || e != api.OK {
					t.Error(x, a, b, verdict, e)
				}
				pairs++
			}
			squares, _ := band.Squares(x.x.City, a)
			for _, square := range squares {
				if a.People > x.x.City.Town.Rooms[square] {
					t.Error(x, a, square)
				}
			}
		}
		for square, owed := range x.x.City.Sleep {
			if _, minutes, e := band.Sleep(x.x.City, bands, square); minutes < owed || e != api.OK {
				t.Error(x, square, minutes, e)
			}
		}
	}
	if pairs < 500 {
		t.Error("few pairs of bands:", pairs)
	}
}

// P10.9: each coin of each bill is traced to a fund that can pay it; a bill that is refused would leave no trace.
func TestTraced(t *testing.T) {
	paid, refused := 0, 0
	for _, x := range trials(10, 800) {
		var bills []api.Bill
		replies := run(t, x.x, x.lines)
		for i, line := range x.lines {
			parts := formed.FindStringSubmatch(line)
			if parts == nil || parts[1] != "bill" || replies[i] == "error 1" {
				continue
			}
			words := strings.Fields(parts[2])
			more := append(slices.Clone(bills), api.Bill{Day: x.x.Date, Use: number(words[0]), Amount: number(words[1])})
			_, e := coin.Trace(api.Ledger{Funds: x.x.Funds, Bills: more})
			if (replies[i] == "ok") != (e == api.OK) {
				t.Error(x, i, replies[i], e)
			}
			if e != api.OK {
				refused++
				continue
			}
			bills = more
		}
		d := keep(t, x.x, x.lines)
		trace := tracesOf(t, x, len(d.Bills))
		if flaws, e := coin.Audit(api.Ledger{Funds: x.x.Funds, Bills: d.Bills}, trace); len(flaws) > 0 || e != api.OK || !slices.Equal(d.Bills, bills) {
			t.Error(x, d.Bills, bills, trace, flaws, e)
		}
		paid += len(bills)
	}
	if paid < 400 || refused < 400 {
		t.Error("few bills of a kind:", paid, refused)
	}
}

func number(word string) int {
	n := 0
	for _, digit := range word {
		n = 10*n + int(digit-'0')
	}
	return n
}

// tracesOf is what is replied about each of so many bills behind all lines.
func tracesOf(t *testing.T, x trial, bills int) [][]int {
	t.Helper()
	lines := those(x.lines, "bill")
	for i := range bills {
		lines = append(lines, "trace "+said(i))
	}
	trace := make([][]int, bills)
	for i, reply := range run(t, x.x, lines)[len(lines)-bills:] {
		for _, word := range strings.Fields(reply) {
			if word != "none" {
				trace[i] = append(trace[i], number(word))
			}
		}
	}
	return trace
}

// T5: a plan that surely keeps the time can be started line by line, whenever it begins, and the desk says then that it is kept.
func TestStarted(t *testing.T) {
	pick := rand.New(rand.NewPCG(11, 10))
	planned, none := 0, 0
	for range 300 {
		x := anyDirector(pick)
		x.Rules.Most += 20
		starts, _, e := parade.Plan(x.School, x.Rules)
		if e != api.OK {
			none++
			continue
		}
		begin := pick.IntN(43000)
		var lines []string
		for _, start := range starts {
			lines = append(lines, "at "+said(begin+start), "wing")
		}
		verdict, seconds, e := parade.Lasts(x.School, starts, x.Rules)
		replies := run(t, x, append(lines, "lasts"))
		want := append(slices.Repeat([]string{"ok"}, len(lines)), "sure "+said(seconds.Lo, seconds.Hi))
		if verdict != api.Sure || e != api.OK || !slices.Equal(replies, want) {
			t.Error(x, starts, replies, want)
		}
		planned++
	}
	if planned < 50 || none < 20 {
		t.Error("few plans, or few schools without one:", planned, none)
	}
}

// logs writes all logs of a desk, and looks whether they are read as they were.
func logs(t *testing.T, x api.Director, d api.Desk) {
	t.Helper()
	program, e := parade.Write(x.School)
	school, _, e2 := parade.Read(program)
	if e != api.OK || e2 != api.OK || school.Route != x.School.Route || !slices.Equal(school.Wings, x.School.Wings) {
		t.Error(x, program, school, e, e2)
	}
	minutes, e := marks.Write(x.Scale, d.Night)
	scale, known, _, e2 := marks.Read(minutes)
	again, _ := marks.Write(scale, known)
	if e != api.OK || e2 != api.OK || again != minutes || !sameNight(known, d.Night) || !slices.Equal(scale.Order, x.Scale.Order) {
		t.Error(x, d.Night, minutes, e, e2)
	}
	paper, e := band.Write(x.City, d.Bands)
	bands, _, e2 := band.Read(x.City, paper)
	if e != api.OK || e2 != api.OK || !slices.EqualFunc(bands, d.Bands, sameBand) {
		t.Error(x, d.Bands, paper, e, e2)
	}
	book, e := coin.Write(api.Ledger{Funds: x.Funds, Bills: d.Bills})
	ledger, _, e2 := coin.Read(book)
	again, _ = coin.Write(ledger)
	if e != api.OK || e2 != api.OK || again != book || !slices.Equal(ledger.Bills, d.Bills) {
		t.Error(x, d.Bills, book, e, e2)
	}
}

// T6: all logs of a desk can be written, and are read as they were; also long ones.
func TestLogs(t *testing.T) {
	for _, x := range trials(12, 500) {
		logs(t, x.x, keep(t, x.x, x.lines))
	}
	x := longest()
	var lines []string
	for judge := range 4 {
		for matter := range 6 {
			lines = append(lines, envelope(x.Scale, 5-matter, judge, 100, 100, 100, 100, 100, 100, 100, 100))
		}
	}
	for matter := range 6 {
		lines = append(lines, "absent "+said(matter, 4))
	}
	lines = append(lines, slices.Repeat([]string{"fine 7 1000"}, 10)...)
	lines = append(lines, slices.Repeat([]string{"bill 7 9999999"}, 8)...)
	for i := range 10 {
		lines = append(lines, "band 10 "+said(100+i*50, 100+i*50, 1, 1000000)+strings.Repeat(" 11", 12))
	}
	for _, reply := range run(t, x, lines) {
		if reply != "ok" {
			t.Error(reply)
		}
	}
	logs(t, x, keep(t, x, lines))
}

// T6 holds as far as layer 5 writes minutes: the chapter refuses no envelope and no absence because minutes would have more than 3,000 bytes.
func TestTooLong(t *testing.T) {
	x := longest()
	lines := slices.Repeat([]string{envelope(x.Scale, 0, 0, 100, 100, 100, 100, 100, 100, 100, 100)}, 60)
	lines = append(lines, slices.Repeat([]string{"absent 0 1"}, 40)...)
	for _, reply := range run(t, x, lines) {
		if reply != "ok" {
			t.Error(reply)
		}
	}
	d := keep(t, x, lines)
	if text, e := marks.Write(x.Scale, d.Night); len(d.Night.Opened) != 60 || len(d.Night.Absent) != 40 || text != "" || e != api.ErrLong {
		t.Error(d, text, e)
	}
}

// longest is a director whose logs are long.
func longest() api.Director {
	x := api.Director{
		School: api.School{Route: 100000},
		Scale:  api.Scale{Schools: 8, Matters: 6, Judges: 5, Drop: 4, Low: 100, High: 100, Order: []int{5, 4, 3, 2, 1, 0}},
		City:   api.City{Town: api.Town{Rooms: slices.Repeat([]int{1000000}, 12), Streets: slices.Repeat([]api.Street{{A: 10, B: 11}}, 12), Steps: 96}, Sleep: make([]int, 12)},
		Funds:  slices.Repeat([]api.Fund{{Day: 3650, Until: 3650, Amount: 1000000000, Uses: []int{0, 1, 2, 3, 4, 5, 6, 7}}}, 8),
		Date:   3650,
	}
	for i := range 8 {
		x.School.Wings = append(x.School.Wings, api.Wing{Name: strings.Repeat(string(rune('a'+i)), 8), Length: 5000, Pace: span(200, 200)})
	}
	return x
}

// P10.1 and P10.11: what is reported is that of the desk which the same script leaves, also if lines come one script after the other.
func TestOneByOne(t *testing.T) {
	for _, x := range trials(13, 60) {
		c := clerk{x: x.x}
		for i, line := range x.lines {
			c.reply(line)
			text, e := night.Report(x.x, scriptOf(x.lines[:i+1]))
			if e != api.OK || text != told(x.x, c.d) {
				t.Error(x, i, text, e)
			}
		}
	}
}
