package song_test

import (
	"math"
	"reflect"
	"slices"
	"strings"
	"testing"

	"bateria/api"
	"bateria/song"
)

var strange = []int{math.MinInt, math.MinInt + 1, -1, 0, 1, 2, 3, 8, 300, api.MaxSerial, math.MaxInt - 1, math.MaxInt}

// P1 and R5: any values are taken, and all functions return; R3: with an error the other results are zero values.
func TestStrangeArguments(t *testing.T) {
	for _, a := range strange {
		for _, b := range strange {
			for _, c := range []api.Contest{
				changed(func(c *api.Contest) { c.Songs, c.Juries = a, b }),
				changed(func(c *api.Contest) { c.Members, c.Most = a, b }),
				changed(func(c *api.Contest) { c.Rounds[0].Keep, c.Rounds[1].Keep = a, b }),
				changed(func(c *api.Contest) { c.Rounds[0].Jury, c.Rounds[1].Member = a, b }),
				changed(func(c *api.Contest) { c.Rounds[0].Member, c.Rounds[0].Keep = a, b }),
				changed(func(c *api.Contest) { c.Songs, c.Rounds = a, slices.Repeat([]api.Round{{Keep: b}}, 4) }),
				{Songs: a, Rounds: make([]api.Round, 1000)},
				{},
			} {
				askAll(t, c, opened(), 1, 0)
				askAll(t, c, nil, 0, 2)
			}
			for _, l := range [][]api.Ballot{
				reopened(func(l []api.Ballot) { l[1].Serial, l[1].Round = a, b }),
				reopened(func(l []api.Ballot) { l[1].Kind, l[1].Voter = a, b }),
				reopened(func(l []api.Ballot) { l[1].Song, l[1].Points = a, b }),
				reopened(func(l []api.Ballot) { l[4].Voter, l[4].Song = a, b }),
				reopened(func(l []api.Ballot) { l[4].Round, l[4].Points = a, b }),
				append(opened(), api.Ballot{Serial: a, Round: b, Kind: a, Voter: b, Song: a, Points: b}),
				make([]api.Ballot, 1000),
			} {
				askAll(t, samba(), l, 1, 0)
			}
			askAll(t, samba(), opened(), a, b)
			askPrefs(t, a, [][]int{{b}})
			askPrefs(t, 3, [][]int{{0, a, b}, {b, a}, nil})
			askPrefs(t, a, make([][]int, 1000))
		}
	}
	for _, text := range []string{"\x00", "\xff\xfe\n", strings.Repeat("\n", 12000), strings.Repeat(" ", 12000), "contest" + strings.Repeat(" ", 11990) + "\n", head + "ballot \xff 0 1 0 1 5\nend 1\n"} {
		if c, l, _, e := song.Read(text); e == api.OK || !reflect.DeepEqual(c, api.Contest{}) || len(l) > 0 {
			t.Errorf("Read %q %v %v %v", text, c, l, e)
		}
	}
}

// askAll asks all functions about a contest, and looks for results beside an error.
func askAll(t *testing.T, c api.Contest, l []api.Ballot, round, which int) {
	t.Helper()
	if r, n, e := song.Run(c, l); e != api.OK && (len(r) > 0 || n != 0) || e != song.CheckBallots(c, l) {
		t.Error("Run", c, l, r, n, e)
	}
	if r, e := song.Counts(c, l); e != api.OK && len(r) > 0 {
		t.Error("Counts", c, l, r, e)
	}
	if r, e := song.Stays(c, l, round); e != api.OK && len(r) > 0 {
		t.Error("Stays", c, l, round, r, e)
	}
	if n, e := song.Needs(c, l, round, which); e != api.OK && n != 0 {
		t.Error("Needs", c, l, round, which, n, e)
	}
	if text, e := song.Write(c, l); e != api.OK && text != "" {
		t.Error("Write", c, l, text, e)
	}
}

// askPrefs asks all functions about preferences, and looks for results beside an error.
func askPrefs(t *testing.T, songs int, prefs [][]int) {
	t.Helper()
	if l, n, e := song.Runoff(songs, prefs); e != api.OK && (len(l) > 0 || n != 0) {
		t.Error("Runoff", songs, prefs, l, n, e)
	}
	if l, n, e := song.Duels(songs, prefs); e != api.OK && (len(l) > 0 || n != 0) {
		t.Error("Duels", songs, prefs, l, n, e)
	}
}

// R4: arguments are not changed, not even behind their ends, and results are new memory.
func TestMemory(t *testing.T) {
	// there is room behind all lists, which belongs to the caller
	c, l, prefs := samba(), opened(), ring()
	c.Rounds = append(c.Rounds, api.Round{Keep: 7}, api.Round{Keep: 7})[:2]
	l = append(l, member(7, 7, 7, 7), member(7, 7, 7, 7))[:10]
	prefs[0] = append(prefs[0], 7, 7)[:3]
	prefs = append(prefs, []int{7}, []int{7})[:5]
	want, _, _ := song.Run(samba(), opened())
	for range 2 { // a second time, after the results of the first one were changed
		askAll(t, c, l, 1, 0)
		askPrefs(t, 3, prefs)
		results, _, _ := song.Run(c, l)
		counts, _ := song.Counts(c, l)
		stays, _ := song.Stays(c, l, 1)
		out, _, _ := song.Runoff(3, prefs)
		over, _, _ := song.Duels(3, prefs)
		read, ballots, _, _ := song.Read(urn)
		if !reflect.DeepEqual(results, want) || counts[4] || !slices.Equal(stays, []int{open, open, never}) || !slices.Equal(out, []int{0, 2}) || over[0][1] != 3 || !sameContest(read, samba()) || !slices.Equal(ballots, opened()) {
			t.Error(results, counts, stays, out, over, read, ballots)
		}
		for i := range results {
			results[i].Songs[0], results[i].Points[0], results[i].Votes[0], results[i].Scores[0], results[i].Kept[0] = 9, 9, 9, 9, 9
		}
		counts[4], stays[0], out[0], over[0][1], read.Rounds[0].Keep, ballots[0].Song = true, 9, 9, 9, 9, 9
	}
	if !sameContest(c, samba()) || !slices.Equal(l, opened()) || !slices.EqualFunc(prefs, ring(), slices.Equal[[]int]) {
		t.Error(c, l, prefs)
	}
	behind := c.Rounds[:4][2].Keep == 7 && c.Rounds[:4][3].Keep == 7 && l[:12][10].Song == 7 && l[:12][11].Song == 7 && prefs[0][:5][3] == 7 && prefs[:7][5][0] == 7 && prefs[:7][6][0] == 7
	if !behind {
		t.Error(c.Rounds[:4], l[:12], prefs[:7])
	}
}

// R4: the lists of a result share no memory with each other.
func TestApart(t *testing.T) {
	c := changed(func(c *api.Contest) { c.Rounds[0].Keep = 3 })
	want, _, _ := song.Run(c, opened())
	results, _, _ := song.Run(c, opened())
	over, _, _ := song.Duels(3, ring())
	for i := range results {
		for _, list := range []*[]int{&results[i].Songs, &results[i].Points, &results[i].Votes, &results[i].Scores, &results[i].Kept} {
			_ = append(*list, 77, 77, 77)
			kept := slices.Clone(*list)
			for j := range *list {
				(*list)[j] = 55
			}
			*list = kept
		}
	}
	if !reflect.DeepEqual(results, want) {
		t.Error(results, want)
	}
	for i := range over {
		_ = append(over[i], 77, 77, 77)
	}
	if !slices.EqualFunc(over, [][]int{{0, 3, 2}, {2, 0, 3}, {3, 2, 0}}, slices.Equal[[]int]) {
		t.Error(over)
	}
}

// R4: a nil slice and an empty one are equal.
func TestEmpty(t *testing.T) {
	want, winner, _ := song.Run(samba(), nil)
	if results, n, e := song.Run(samba(), []api.Ballot{}); !sameResults(results, want) || n != winner || e != api.OK {
		t.Error(results, n, e)
	}
	for _, l := range [][]api.Ballot{nil, {}} {
		counts, e := song.Counts(samba(), l)
		stays, e2 := song.Stays(samba(), l, 0)
		votes, e3 := song.Needs(samba(), l, 0, 2)
		text, e4 := song.Write(pair(), l)
		if len(counts) > 0 || !slices.Equal(stays, []int{open, open, open}) || votes != 0 || text != "contest 2 0 3 0\nround 1 0 1\nend 0\n" || e+e2+e3+e4 != api.OK {
			t.Error(counts, stays, votes, text, e, e2, e3, e4)
		}
	}
	for _, prefs := range [][][]int{nil, {}, {nil}, {{}}, {nil, {}}} {
		out, winner, e := song.Runoff(2, prefs)
		over, best, e2 := song.Duels(2, prefs)
		if !slices.Equal(out, []int{1}) || winner != 0 || !slices.EqualFunc(over, [][]int{{0, 0}, {0, 0}}, slices.Equal[[]int]) || best != -1 || e+e2 != api.OK {
			t.Error(prefs, out, winner, e, over, best, e2)
		}
	}
}

// R7: the greatest sums are exact, and the greatest contests take no time to go through.
func TestGreatest(t *testing.T) {
	c, l := greatest()
	results, winner, e := song.Run(c, l)
	last := results[3]
	if e != api.OK || winner != 7 || last.Points[0] != 800 || last.Scores[0] != 800000 || last.Points[7] != 800 || last.Votes[7] != 236 || last.Scores[7] != 1036000 {
		t.Error(results, winner, e)
	}
	if stays, e := song.Stays(c, l, 3); e != api.OK || !slices.Equal(stays, []int{open, open, open, open, open, open, open, open}) {
		t.Error(stays, e)
	}
	// 236 votes for the song 7, and 764 that are left
	if votes, e := song.Needs(c, l, 3, 0); votes != 236 || e != api.OK {
		t.Error(votes, e)
	}
	if votes, e := song.Needs(c, l, 3, 7); votes != 0 || e != api.OK {
		t.Error(votes, e)
	}
	prefs := slices.Repeat([][]int{{7, 6, 5, 4, 3, 2, 1, 0}}, 200)
	out, winner, e := song.Runoff(8, prefs)
	over, best, e2 := song.Duels(8, prefs)
	if !slices.Equal(out, []int{6, 5, 4, 3, 2, 1, 0}) || winner != 7 || over[7][0] != 200 || over[0][7] != 0 || best != 7 || e+e2 != api.OK {
		t.Error(out, winner, e, over, best, e2)
	}
}
