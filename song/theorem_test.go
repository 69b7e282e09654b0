package song_test

import (
	"math/rand/v2"
	"slices"
	"testing"

	"bateria/api"
	"bateria/song"
)

// run is what Run and Counts say of valid ballots.
func run(t *testing.T, c api.Contest, l []api.Ballot) ([]api.Result, int, []bool) {
	t.Helper()
	results, winner, e := song.Run(c, l)
	counts, e2 := song.Counts(c, l)
	if e != api.OK || e2 != api.OK {
		t.Fatal(c, l, e, e2)
	}
	return results, winner, counts
}

func sameResult(a, b api.Result) bool {
	return slices.Equal(a.Songs, b.Songs) && slices.Equal(a.Points, b.Points) && slices.Equal(a.Votes, b.Votes) && slices.Equal(a.Scores, b.Scores) && slices.Equal(a.Kept, b.Kept)
}

func sameResults(a, b []api.Result) bool { return slices.EqualFunc(a, b, sameResult) }

// P4.1 and P4.5: the result of each round is that of its ballots that count, and the winner is the song that the rules give.
func TestRules(t *testing.T) {
	twice, gone, second := 0, 0, 0
	for _, x := range trials(2000, 14) {
		results, winner, counts := run(t, x.c, x.l)
		all, want := rounds(x.c, x.l)
		if !slices.Equal(counts, want) || len(results) != len(all) {
			t.Error(x, counts, want)
			continue
		}
		for i, r := range x.c.Rounds {
			m, points, votes, scores := all[i], []int{}, []int{}, []int{}
			for _, song := range m.songs {
				points, votes = append(points, m.points[song]), append(votes, m.votes[song])
				scores = append(scores, r.Jury*m.points[song]+r.Member*m.votes[song])
			}
			if !sameResult(results[i], api.Result{Songs: m.songs, Points: points, Votes: votes, Scores: scores, Kept: m.kept}) {
				t.Error(x, i, results[i], m)
			}
		}
		last := all[len(all)-1].kept
		if !slices.Equal(last, []int{winner}) {
			t.Error(x, winner, last)
		}
		for i, b := range x.l {
			switch {
			case slices.Contains(all[b.Round].songs, b.Song) && !counts[i]:
				twice++
			case !counts[i]:
				gone++
			}
		}
		if winner > 0 {
			second++
		}
	}
	if twice < 500 || gone < 500 || second < 300 {
		t.Error("few ballots that do not count, or few winners but the first song:", twice, gone, second)
	}
}

// P4.6: ballots that are opened in another order have the same results, and the same of them count.
func TestAnyOrder(t *testing.T) {
	pick := rand.New(rand.NewPCG(11, 12))
	for _, x := range trials(500, 14) {
		results, winner, counts := run(t, x.c, x.l)
		for range 4 {
			order, l := pick.Perm(len(x.l)), []api.Ballot{}
			for _, i := range order {
				l = append(l, x.l[i])
			}
			others, other, others2 := run(t, x.c, l)
			if !sameResults(others, results) || other != winner {
				t.Error(x, l, others, results)
			}
			for to, from := range order {
				if others2[to] != counts[from] {
					t.Error(x, l, counts, others2)
				}
			}
			for round := range x.c.Rounds {
				a, _ := song.Stays(x.c, x.l, round)
				b, e := song.Stays(x.c, l, round)
				if !slices.Equal(a, b) || e != api.OK {
					t.Error(x, l, round, a, b, e)
				}
			}
		}
	}
}

// P4.7: of each member at most one ballot counts in a round, of each jury one for each song.
func TestNotTwice(t *testing.T) {
	for _, x := range trials(1000, 14) {
		results, _, counts := run(t, x.c, x.l)
		seen := map[api.Ballot]bool{}
		for i, b := range x.l {
			if !counts[i] {
				continue
			}
			b.Serial, b.Points = 0, 0
			if b.Kind == api.BallotMember {
				b.Song = 0
			}
			if seen[b] {
				t.Error(x, i, counts)
			}
			seen[b] = true
		}
		for round := range x.c.Rounds {
			votes := 0
			for _, n := range results[round].Votes {
				votes += n
			}
			if votes > x.c.Members {
				t.Error(x, round, results)
			}
		}
	}
}

// P4.7: ballots that do not count can be left out, and one more of somebody who has voted, with a greater number, changes nothing.
func TestNothingChanged(t *testing.T) {
	left, more := 0, 0
	for _, x := range trials(1000, 14) {
		results, winner, counts := run(t, x.c, x.l)
		var l []api.Ballot
		for i, b := range x.l {
			if counts[i] {
				l = append(l, b)
			} else {
				left++
			}
		}
		others, other, others2 := run(t, x.c, l)
		if !sameResults(others, results) || other != winner || slices.Contains(others2, false) {
			t.Error(x, l, others, results, others2)
		}
		for _, b := range l {
			again := b
			again.Serial = 999999999
			if b.Kind == api.BallotMember {
				again.Song = (b.Song + 1) % x.c.Songs
			} else {
				again.Points = x.c.Most - b.Points
			}
			more++
			others, other, others2 := run(t, x.c, append(slices.Clone(x.l), again))
			if !sameResults(others, results) || other != winner || !slices.Equal(others2, append(slices.Clone(counts), false)) {
				t.Error(x, again, others, results, others2)
			}
		}
	}
	if left < 500 || more < 2000 {
		t.Error("few ballots that are left out, or more:", left, more)
	}
}

// stills hands out all rounds of trials that can be gone through in so many ways.
func stills(many, ballots, most int, look func(x trial, round int)) {
	for _, x := range trials(many, ballots) {
		all, _ := rounds(x.c, x.l)
		for round := range x.c.Rounds {
			if ways(x.c, all[round], choices(x.c, x.l, round)) <= most {
				look(x, round)
			}
		}
	}
}

// P4.2, P4.8 and P4.9: what Stays and Needs say is so for all ways to vote.
func TestAllWays(t *testing.T) {
	verdicts, votes, missing := map[int]int{}, map[int]int{}, 0
	stills(2000, 14, 20000, func(x trial, round int) {
		got, e := song.Stays(x.c, x.l, round)
		list := futures(x.c, x.l, round)
		all, _ := rounds(x.c, x.l)
		if e != api.OK || len(got) != x.c.Songs {
			t.Fatal(x, round, got, e)
		}
		for i, f := range list {
			want := f.verdict()
			verdicts[got[i]]++
			if got[i] != want {
				t.Error(x, round, i, got, want)
			}
			n, e := song.Needs(x.c, x.l, round, i)
			least, e2 := f.needs()
			if n != least || e != e2 {
				t.Error(x, round, i, n, e, least, e2)
			}
			switch {
			case e == api.OK:
				votes[n]++
			case slices.Contains(all[round].songs, i):
				missing++
			}
		}
	})
	if verdicts[sure] < 500 || verdicts[never] < 500 || verdicts[open] < 500 {
		t.Error("few verdicts of a kind:", verdicts)
	}
	if votes[0] < 500 || votes[1] < 100 || votes[2] < 30 || missing < 200 {
		t.Error("few needs of a kind:", votes, missing)
	}
}

// P4.8: the ballots of all ways to vote are really opened.
func TestAllOpened(t *testing.T) {
	rows := 0
	stills(500, 14, 600, func(x trial, round int) {
		verdicts, e := song.Stays(x.c, x.l, round)
		if e != api.OK {
			t.Fatal(x, round, e)
		}
		all, _ := rounds(x.c, x.l)
		kept, ways := make([]int, x.c.Songs), 0
		for more := range goneThrough(x.c, all[round], round, choices(x.c, x.l, round)) {
			ways++
			results, _, e := song.Run(x.c, slices.Concat(x.l, more))
			if e != api.OK {
				t.Fatal(x, more, e)
			}
			for _, song := range results[round].Kept {
				kept[song]++
			}
		}
		for i, n := range kept {
			want := open
			switch n {
			case ways:
				want = sure
			case 0:
				want = never
			}
			if verdicts[i] != want {
				t.Error(x, round, verdicts, kept, ways)
			}
		}
		rows++
	})
	if rows < 200 {
		t.Error("few rounds:", rows)
	}
}

// P4.9: with as many votes as Needs says the song is kept in something that could still be, and with fewer in nothing: the votes are really opened.
func TestNeeded(t *testing.T) {
	pick := rand.New(rand.NewPCG(13, 14))
	lots := 0
	for range 500 {
		c := api.Contest{Songs: 2 + pick.IntN(7), Juries: pick.IntN(3), Members: 250, Most: 30, Rounds: []api.Round{{Keep: 1, Jury: pick.IntN(5), Member: pick.IntN(4)}}}
		c.Rounds = append([]api.Round{{Keep: 1 + pick.IntN(c.Songs), Jury: pick.IntN(5), Member: 1 + pick.IntN(4)}}, c.Rounds...)
		var l []api.Ballot
		for voter := range 5 + pick.IntN(150) {
			l = append(l, member(voter+1, 0, voter, pick.IntN(c.Songs)))
		}
		members := 250 - len(l)
		for voter := range c.Juries {
			for i := range c.Songs {
				if pick.IntN(3) > 0 {
					l = append(l, jury(1000+10*voter+i, 0, voter, i, pick.IntN(31)))
				}
			}
		}
		which := pick.IntN(c.Songs)
		votes, e := song.Needs(c, l, 0, which)
		if e != api.OK {
			if e != api.ErrMissing || mayBeKept(t, c, l, which, members) {
				t.Error(c, l, which, votes, e)
			}
			continue
		}
		if !mayBeKept(t, c, l, which, votes) || votes > 0 && mayBeKept(t, c, l, which, votes-1) {
			t.Error(c, l, which, votes)
		}
		if votes > 10 {
			lots++
		}
	}
	if lots < 20 {
		t.Error("few songs that need a lot:", lots)
	}
}

// mayBeKept says whether the round 0 keeps a song if so many members vote for it, and no others, and all juries do what they can.
func mayBeKept(t *testing.T, c api.Contest, l []api.Ballot, which, votes int) bool {
	t.Helper()
	l = slices.Clone(l)
	for _, who := range choices(c, l, 0) {
		switch {
		case who.kind == api.BallotJury && who.song == which:
			l = append(l, jury(2000+len(l), 0, who.voter, which, c.Most))
		case who.kind == api.BallotMember && votes > 0:
			votes--
			l = append(l, member(2000+len(l), 0, who.voter, which))
		}
	}
	results, _, e := song.Run(c, l)
	if e != api.OK || votes > 0 {
		t.Fatal(c, len(l), votes, e)
	}
	return slices.Contains(results[0].Kept, which)
}

// place is how many songs are ahead of one in a round.
func place(c api.Contest, l []api.Ballot, round, song int) int {
	all, _ := rounds(c, l)
	before := 0
	for _, other := range all[round].songs {
		if other != song && first(c.Rounds[round], all[round], other, song) {
			before++
		}
	}
	return before
}

// P4.10: a ballot more for a song, of somebody who has not voted yet, does not make it worse in its round; what is Sure or Never stays, whoever votes.
func TestMoreVotes(t *testing.T) {
	better, decided := 0, 0
	for _, x := range trials(400, 10) {
		results, _, _ := run(t, x.c, x.l)
		for round := range x.c.Rounds {
			verdicts, e := song.Stays(x.c, x.l, round)
			if e != api.OK {
				t.Fatal(x, round, e)
			}
			for _, b := range moreBallots(x.c, x.l, round, results[round].Songs) {
				l := append(slices.Clone(x.l), b)
				before, after := place(x.c, x.l, round, b.Song), place(x.c, l, round, b.Song)
				if after > before {
					t.Error(x, b, before, after)
				}
				if after < before {
					better++
				}
				others, _, _ := run(t, x.c, l)
				if slices.Contains(results[round].Kept, b.Song) && !slices.Contains(others[round].Kept, b.Song) {
					t.Error(x, b, results, others)
				}
				then, e := song.Stays(x.c, l, round)
				for i, v := range verdicts {
					if e != api.OK || v != open && then[i] != v {
						t.Error(x, b, verdicts, then, e)
					}
					if v == open && then[i] != v {
						decided++
					}
				}
			}
		}
	}
	if better < 500 || decided < 200 {
		t.Error("few ballots that change something:", better, decided)
	}
}

// moreBallots are all ballots for songs of a round of those who have not voted yet.
func moreBallots(c api.Contest, l []api.Ballot, round int, songs []int) []api.Ballot {
	var more []api.Ballot
	for _, who := range choices(c, l, round) {
		if who.kind == api.BallotMember {
			for _, i := range songs {
				more = append(more, member(900000000, round, who.voter, i))
			}
			continue
		}
		for points := range c.Most + 1 {
			more = append(more, jury(900000000, round, who.voter, who.song, points))
		}
	}
	return more
}

// P4.3 and P4.11: in a runoff each song is left out once, but the winner, for whom in the end no fewer lists are than for the other one; a song that is first in more than half of all lists wins.
func TestLeftOut(t *testing.T) {
	most, others := 0, 0
	for _, x := range preferences(3000, 9) {
		out, winner, e := song.Runoff(x.songs, x.prefs)
		want, best := leftOut(x.songs, x.prefs)
		if !slices.Equal(out, want) || winner != best || e != api.OK {
			t.Error(x, out, winner, e, want, best)
			continue
		}
		all := append(slices.Clone(out), winner)
		slices.Sort(all)
		for i := range x.songs {
			if len(all) != x.songs || all[i] != i {
				t.Error(x, out, winner)
			}
		}
		firsts, lasts := make([]int, x.songs), make([]int, x.songs)
		for _, list := range x.prefs {
			if i := isFor(list, nil); i >= 0 {
				firsts[i]++
			}
			if i := isFor(list, out[:max(len(out)-1, 0)]); i >= 0 {
				lasts[i]++
			}
		}
		if len(out) > 0 && lasts[winner] < lasts[out[len(out)-1]] {
			t.Error(x, out, winner, lasts)
		}
		for i, n := range firsts {
			if 2*n <= len(x.prefs) {
				continue
			}
			most++
			if i != winner {
				t.Error(x, out, winner, firsts)
			}
		}
		if len(x.prefs) > 0 && 2*firsts[winner] <= len(x.prefs) && firsts[winner] < slices.Max(firsts) {
			others++
		}
	}
	if most < 300 || others < 50 {
		t.Error("few runoffs of a kind:", most, others)
	}
}

// P4.3 and P4.12: a song that is over each other one is the only one, and wins a runoff if it is one of the last two songs; two numbers of a duel are together no more than all lists.
func TestDuelsAll(t *testing.T) {
	lost, last, none := 0, 0, 0
	for _, x := range preferences(3000, 9) {
		over, best, e := song.Duels(x.songs, x.prefs)
		want, winner := duels(x.songs, x.prefs)
		if !slices.EqualFunc(over, want, slices.Equal[[]int]) || best != winner || e != api.OK {
			t.Error(x, over, best, e, want, winner)
			continue
		}
		for a := range x.songs {
			for b := range x.songs {
				if over[a][b]+over[b][a] > len(x.prefs) || a == b && over[a][b] != 0 {
					t.Error(x, over, a, b)
				}
			}
		}
		if best < 0 {
			none++
			continue
		}
		for i := range x.songs {
			if i != best && over[i][best] >= over[best][i] {
				t.Error(x, over, best, i)
			}
		}
		out, winner, e := song.Runoff(x.songs, x.prefs)
		switch {
		case e != api.OK:
			t.Error(x, e)
		case winner == best || best == out[len(out)-1]:
			last++
			if winner != best {
				t.Error(x, over, best, out, winner)
			}
		default:
			lost++
		}
	}
	if lost < 3 || last < 500 || none < 300 {
		t.Error("few duels of a kind:", lost, last, none)
	}
}
