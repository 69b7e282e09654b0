package night_test

// The model follows the section Terms of the chapter line by line: it asks the layers of a desk that it keeps itself. The other tests hold the package against it.

import (
	"math/rand/v2"
	"regexp"
	"slices"
	"strconv"
	"strings"
	"testing"

	"bateria/api"
	"bateria/band"
	"bateria/coin"
	"bateria/marks"
	"bateria/night"
	"bateria/parade"
)

func span(low, high int) api.Span { return api.Span{Lo: low, Hi: high} }

// avenue is the director X of the chapter's examples.
func avenue() api.Director {
	return api.Director{
		School: api.School{Route: 1000, Wings: []api.Wing{
			{Name: "front", Length: 100, Pace: span(40, 50)},
			{Name: "drums", Length: 200, Pace: span(50, 60)},
			{Name: "back", Length: 100, Pace: span(30, 50)},
		}},
		Rules: api.Rules{Least: 30, Most: 60, Gap: 150},
		Scale: api.Scale{Schools: 3, Matters: 2, Judges: 3, Drop: 1, Low: 50, High: 100, Order: []int{1, 0}},
		City: api.City{
			Town:  api.Town{Rooms: []int{110, 80, 50}, Streets: []api.Street{{A: 0, B: 1}, {A: 1, B: 2}, {A: 0, B: 2}}, Steps: 6},
			Break: 5,
			Sleep: []int{590, 500, 0},
		},
		Funds: []api.Fund{
			{Until: 30, Amount: 1000, Uses: []int{0, 1}},
			{Day: 5, Until: 20, Amount: 500, Uses: []int{1}},
			{Until: 40, Amount: 300, Uses: []int{0, 1, 2}},
		},
		Date: 10,
	}
}

// changed is avenue after a change.
func changed(change func(x *api.Director)) api.Director {
	x := avenue()
	change(&x)
	return x
}

// scriptOf is a script of these lines.
func scriptOf(lines []string) string {
	if len(lines) == 0 {
		return ""
	}
	return strings.Join(lines, "\n") + "\n"
}

// linesOf are the lines of a text, each of which is ended.
func linesOf(t *testing.T, text string) []string {
	t.Helper()
	lines := strings.Split(text, "\n")
	if lines[len(lines)-1] != "" {
		t.Fatalf("the last line is not ended: %q", text)
	}
	return lines[:len(lines)-1]
}

// run returns the reply to each line.
func run(t *testing.T, x api.Director, lines []string) []string {
	t.Helper()
	text, e := night.Run(x, scriptOf(lines))
	replies := linesOf(t, text)
	if e != api.OK || len(replies) != len(lines) {
		t.Fatal(lines, replies, e)
	}
	return replies
}

func keep(t *testing.T, x api.Director, lines []string) api.Desk {
	t.Helper()
	d, e := night.Keep(x, scriptOf(lines))
	if e != api.OK {
		t.Fatal(lines, d, e)
	}
	return d
}

func report(t *testing.T, x api.Director, lines []string) string {
	t.Helper()
	text, e := night.Report(x, scriptOf(lines))
	if e != api.OK {
		t.Fatal(lines, text, e)
	}
	return text
}

func sameDesk(a, b api.Desk) bool {
	return a.Second == b.Second && slices.Equal(a.Starts, b.Starts) && sameNight(a.Night, b.Night) && slices.EqualFunc(a.Bands, b.Bands, sameBand) && slices.Equal(a.Bills, b.Bills)
}

func sameNight(a, b api.Night) bool {
	return slices.EqualFunc(a.Opened, b.Opened, sameEnvelope) && slices.Equal(a.Absent, b.Absent) && slices.Equal(a.Fines, b.Fines)
}

func sameEnvelope(a, b api.Envelope) bool {
	return a.Matter == b.Matter && a.Judge == b.Judge && a.Seal == b.Seal && slices.Equal(a.Marks, b.Marks)
}

func sameBand(a, b api.Band) bool {
	return a.First == b.First && slices.Equal(a.Path, b.Path) && a.Start == b.Start && a.Stay == b.Stay && a.People == b.People
}

// clerk does lines by hand.
type clerk struct {
	x api.Director
	d api.Desk
}

// formed is a line that is built as it has to be.
var formed = regexp.MustCompile(`^([a-z]+)((?: (?:0|[1-9][0-9]{0,6}))*)$`)

// takes says how many numbers stand behind each word, at least and at most.
var takes = map[string][2]int{
	"at": {1, 1}, "wing": {0, 0}, "place": {1, 1}, "gap": {1, 1}, "lasts": {0, 0},
	"open": {3, 9999}, "absent": {2, 2}, "fine": {2, 2}, "places": {0, 0}, "winner": {0, 0}, "table": {0, 0},
	"band": {5, 9999}, "heard": {1, 1}, "sleep": {1, 1},
	"bill": {2, 2}, "left": {1, 1}, "trace": {1, 1},
}

// asking are the words of lines that ask alone.
var asking = []string{"place", "gap", "lasts", "places", "winner", "table", "heard", "sleep", "left", "trace"}

// families are the words of lines of the parade, of the marks, of the bands and of the money.
var families = [][]string{
	{"wing", "place", "gap", "lasts"},
	{"open", "absent", "fine", "places", "winner", "table"},
	{"band", "heard", "sleep"},
	{"bill", "left", "trace"},
}

func wordOf(line string) string {
	word, _, _ := strings.Cut(line, " ")
	return word
}

func isRefused(reply string) bool { return strings.HasPrefix(reply, "error ") }

// said is numbers, with a blank between them.
func said(numbers ...int) string {
	var words []string
	for _, n := range numbers {
		words = append(words, strconv.Itoa(n))
	}
	return strings.Join(words, " ")
}

func saidOr(none string, numbers []int) string {
	if len(numbers) == 0 {
		return none
	}
	return said(numbers...)
}

// reply does a line.
func (c *clerk) reply(line string) string {
	parts := formed.FindStringSubmatch(line)
	if parts == nil {
		return "error 1"
	}
	var n []int
	for _, word := range strings.Fields(parts[2]) {
		number, _ := strconv.Atoi(word)
		n = append(n, number)
	}
	many, known := takes[parts[1]]
	if !known || len(n) < many[0] || len(n) > many[1] {
		return "error 1"
	}
	text, e := c.answer(parts[1], n)
	if e != api.OK {
		return "error " + strconv.Itoa(int(e))
	}
	return text
}

func (c *clerk) answer(word string, n []int) (string, api.Errno) {
	switch word {
	case "wing", "place", "gap", "lasts":
		return c.answerParade(word, n)
	case "open", "absent", "fine", "places", "winner", "table":
		return c.answerMarks(word, n)
	case "band", "heard", "sleep":
		return c.answerBands(word, n)
	case "bill", "left", "trace":
		return c.answerMoney(word, n)
	}
	if n[0] < c.d.Second || n[0] > 43199 {
		return "", api.ErrRange
	}
	c.d.Second = n[0]
	return "ok", api.OK
}

// started is the school of the wings that started, their starts and the second, in seconds of the parade.
func started(x api.Director, starts []int, second int) (api.School, []int, int) {
	s := api.School{Route: x.School.Route, Wings: x.School.Wings[:len(starts)]}
	var shifted []int
	for _, start := range starts {
		shifted = append(shifted, start-starts[0])
	}
	return s, shifted, second - starts[0]
}

func (c *clerk) answerParade(word string, n []int) (string, api.Errno) {
	all := len(c.d.Starts) == len(c.x.School.Wings)
	switch word {
	case "wing":
		if all {
			return "", api.ErrState
		}
		starts := append(slices.Clone(c.d.Starts), c.d.Second)
		s, shifted, _ := started(c.x, starts, c.d.Second)
		if e := parade.CheckStarts(s, shifted); e != api.OK {
			return "", e
		}
		c.d.Starts = starts
		return "ok", api.OK
	case "lasts":
		if !all {
			return "", api.ErrState
		}
		s, shifted, _ := started(c.x, c.d.Starts, c.d.Second)
		verdict, seconds, e := parade.Lasts(s, shifted, c.x.Rules)
		return []string{"", "sure ", "never ", "open "}[verdict] + said(seconds.Lo, seconds.Hi), e
	}
	if n[0] >= len(c.d.Starts) {
		return "", api.ErrMissing
	}
	s, shifted, second := started(c.x, c.d.Starts, c.d.Second)
	r, e := parade.Where(s, shifted, n[0], second)
	if word == "gap" && e == api.OK {
		r, e = parade.Gap(s, shifted, n[0], second)
	}
	return said(r.Lo, r.Hi), e
}

func (c *clerk) answerMarks(word string, n []int) (string, api.Errno) {
	known := c.d.Night
	switch word {
	case "open":
		known.Opened = append(slices.Clone(known.Opened), api.Envelope{Matter: n[0], Judge: n[1], Seal: n[2], Marks: n[3:]})
	case "absent":
		known.Absent = append(slices.Clone(known.Absent), api.Absence{Matter: n[0], Judge: n[1]})
	case "fine":
		known.Fines = append(slices.Clone(known.Fines), api.Fine{School: n[0], Points: n[1]})
	default:
		return c.standing(word)
	}
	if e := marks.CheckNight(c.x.Scale, known); e != api.OK {
		return "", e
	}
	c.d.Night = known
	return "ok", api.OK
}

func (c *clerk) standing(word string) (string, api.Errno) {
	var places, may, table []int
	for school := range c.x.Scale.Schools {
		p, _ := marks.Place(c.x.Scale, c.d.Night, school)
		places = append(places, p.Lo, p.Hi)
		if p.Lo == 1 {
			may = append(may, school)
		}
	}
	switch {
	case word == "places":
		return said(places...), api.OK
	case word == "winner" && places[2*may[0]+1] == 1:
		return "sure " + said(may...), api.OK
	case word == "winner":
		return "open " + said(may...), api.OK
	}
	standings, e := marks.Table(c.x.Scale, c.d.Night)
	for _, s := range standings {
		table = append(table, s.School)
	}
	return said(table...), e
}

func (c *clerk) answerBands(word string, n []int) (string, api.Errno) {
	minute := c.d.Second / 60
	switch word {
	case "sleep":
		from, many, e := band.Sleep(c.x.City, c.d.Bands, n[0])
		return said(from, many), e
	case "heard":
		if n[0] >= len(c.x.City.Town.Rooms) {
			return "", api.ErrMissing
		}
		var heard []int
		for i, b := range c.d.Bands {
			if squares, _, _ := band.Where(c.x.City, b, minute); slices.Contains(squares, n[0]) {
				heard = append(heard, i)
			}
		}
		return saidOr("none", heard), api.OK
	}
	bands := append(slices.Clone(c.d.Bands), api.Band{First: n[0], Start: span(n[1], n[2]), Stay: n[3], People: n[4], Path: n[5:]})
	if e := band.CheckBands(c.x.City, bands); e != api.OK {
		return "", e
	}
	if n[1] < minute {
		return "", api.ErrLate
	}
	if answers, _ := band.Grant(c.x.City, bands); answers[len(bands)-1] != api.OK {
		return "", answers[len(bands)-1]
	}
	c.d.Bands = bands
	return "ok", api.OK
}

func (c *clerk) answerMoney(word string, n []int) (string, api.Errno) {
	l := api.Ledger{Funds: c.x.Funds, Bills: c.d.Bills}
	switch word {
	case "left":
		s, e := coin.Spent(l, n[0])
		if e != api.OK {
			return "", e
		}
		return said(c.x.Funds[n[0]].Amount-s.Hi, c.x.Funds[n[0]].Amount-s.Lo), api.OK
	case "trace":
		if n[0] >= len(c.d.Bills) {
			return "", api.ErrMissing
		}
		trace, e := coin.Trace(l)
		return saidOr("none", trace[n[0]]), e
	}
	l.Bills = append(slices.Clone(l.Bills), api.Bill{Day: c.x.Date, Use: n[0], Amount: n[1]})
	if e := coin.Check(l); e != api.OK {
		return "", e
	}
	if _, e := coin.Trace(l); e != api.OK {
		return "", e
	}
	c.d.Bills = l.Bills
	return "ok", api.OK
}

// told is the report of a desk.
func told(x api.Director, d api.Desk) string {
	text := "at " + said(d.Second) + "\n"
	for i, start := range d.Starts {
		s, starts, second := started(x, d.Starts, d.Second)
		place, _ := parade.Where(s, starts, i, second)
		text += "wing " + x.School.Wings[i].Name + " " + said(start, place.Lo, place.Hi) + "\n"
	}
	totals, _ := marks.Totals(x.Scale, d.Night)
	for i, total := range totals {
		text += "school " + said(i, total.Lo, total.Hi) + "\n"
	}
	for i, b := range d.Bands {
		squares, _ := band.Squares(x.City, b)
		text += "band " + said(append([]int{i}, squares...)...) + "\n"
	}
	trace, _ := coin.Trace(api.Ledger{Funds: x.Funds, Bills: d.Bills})
	for i, b := range d.Bills {
		text += "bill " + said(append([]int{b.Use, b.Amount}, trace[i]...)...) + "\n"
	}
	return text + "end\n"
}

// trial is a director and lines of a script.
type trial struct {
	x     api.Director
	lines []string
}

// trials are directors and lines of any kind: most lines are done, and some refused.
func trials(seed uint64, many int) []trial {
	pick := rand.New(rand.NewPCG(seed, 10))
	var list []trial
	for range many {
		x := anyDirector(pick)
		list = append(list, trial{x, anyLines(pick, x, pick.IntN(api.MaxLines+1))})
	}
	return list
}

// those are the lines whose words are some of these.
func those(lines []string, words ...string) []string {
	return slices.DeleteFunc(slices.Clone(lines), func(line string) bool { return !slices.Contains(words, wordOf(line)) })
}

func mixed[T any](pick *rand.Rand, list []T) []T {
	list = slices.Clone(list)
	pick.Shuffle(len(list), func(i, j int) { list[i], list[j] = list[j], list[i] })
	return list
}

func anyDirector(pick *rand.Rand) api.Director {
	x := avenue()
	x.School = anySchool(pick, 1+pick.IntN(5))
	x.Rules.Least = pick.IntN(60)
	x.Rules.Most = x.Rules.Least + pick.IntN(100)
	x.Scale = anyScale(pick)
	x.City.Break = pick.IntN(20)
	x.City.Sleep = []int{pick.IntN(600), pick.IntN(600), pick.IntN(600)}
	x.City.Town.Rooms = append(x.City.Town.Rooms, 60)
	x.City.Town.Streets = append(x.City.Town.Streets, api.Street{A: 3, B: 0})
	x.City.Sleep = append(x.City.Sleep, pick.IntN(500))
	x.Funds = mixed(pick, x.Funds)[:pick.IntN(4)]
	x.Date = pick.IntN(35)
	return x
}

func anySchool(pick *rand.Rand, wings int) api.School {
	s := api.School{Route: 500 + pick.IntN(1000)}
	for i := range wings {
		low := 20 + pick.IntN(50)
		s.Wings = append(s.Wings, api.Wing{Name: strings.Repeat(string(rune('a'+i)), 1+pick.IntN(8)), Length: 20 + pick.IntN(200), Pace: span(low, low+pick.IntN(30))})
	}
	return s
}

func anyScale(pick *rand.Rand) api.Scale {
	s := api.Scale{Schools: 1 + pick.IntN(4), Matters: 1 + pick.IntN(2), Judges: 1 + pick.IntN(3), Low: pick.IntN(50), High: 50 + pick.IntN(51)}
	s.Drop = pick.IntN(s.Judges)
	s.Order = pick.Perm(s.Matters)
	return s
}

// anyLines are so many lines, whose seconds go on.
func anyLines(pick *rand.Rand, x api.Director, many int) []string {
	second := 0
	var lines []string
	for range many {
		switch pick.IntN(10) {
		case 0, 1:
			second = min(second+anyStep(pick), 43250)
			lines = append(lines, "at "+said(second))
		case 2, 3:
			lines = append(lines, anyOf(pick, "wing", "wing", "place "+said(pick.IntN(4)), "gap "+said(pick.IntN(4)), "lasts"))
		case 4, 5:
			lines = append(lines, anyOf(pick, anyEnvelope(pick, x.Scale), anyEnvelope(pick, x.Scale), "absent "+said(pick.IntN(3), pick.IntN(4)), "fine "+said(pick.IntN(5), pick.IntN(100)), "places", "winner", "table"))
		case 6, 7:
			lines = append(lines, anyOf(pick, anyBand(pick, second/60), anyBand(pick, second/60), "heard "+said(pick.IntN(5)), "sleep "+said(pick.IntN(5))))
		case 8:
			lines = append(lines, anyOf(pick, "bill "+said(pick.IntN(4), pick.IntN(300)), "left "+said(pick.IntN(4)), "trace "+said(pick.IntN(6))))
		case 9:
			lines = append(lines, anyOf(pick, "", " ", "fuel", "wing 1", "at", "at x", "place", "open 0 0", "trace -1", "places 0", "bill 1 1  1", "band 0 1 2 3", "sleep 01", "winner ", " table", "at "+said(pick.IntN(1000)), "bill 9 1", "fine 0 1001"))
		}
	}
	return lines
}

func anyOf(pick *rand.Rand, lines ...string) string { return lines[pick.IntN(len(lines))] }

// anyStep is how many seconds go by: most often few, at times some minutes, and seldom hours.
func anyStep(pick *rand.Rand) int {
	return []int{pick.IntN(4), pick.IntN(10), pick.IntN(10), pick.IntN(600), pick.IntN(600), pick.IntN(15000)}[pick.IntN(6)]
}

// anyEnvelope opens an envelope, whose seal is right but for some.
func anyEnvelope(pick *rand.Rand, s api.Scale) string {
	matter, judge := pick.IntN(s.Matters), pick.IntN(s.Judges)
	var list []int
	for range s.Schools {
		list = append(list, s.Low+pick.IntN(s.High-s.Low+1))
	}
	seal, _ := marks.Seal(s, matter, judge, list)
	if pick.IntN(8) == 0 {
		list[0] = pick.IntN(110)
	}
	return "open " + said(append([]int{matter, judge, seal}, list...)...)
}

// anyBand asks for a band of the city of anyDirector, from about this minute on.
func anyBand(pick *rand.Rand, minute int) string {
	square := pick.IntN(4)
	n := []int{square, max(0, minute+pick.IntN(120)-5), 0, 1 + pick.IntN(20), pick.IntN(70)}
	n[2] = n[1] + pick.IntN(15)
	for range pick.IntN(4) {
		ways := map[int][][2]int{0: {{0, 1}, {2, 2}, {3, 3}}, 1: {{0, 0}, {1, 2}}, 2: {{1, 1}, {2, 0}}, 3: {{3, 0}}}[square]
		way := ways[pick.IntN(len(ways))]
		n = append(n, way[0])
		square = way[1]
	}
	return "band " + said(n...)
}
