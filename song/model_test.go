package song_test

// The model follows the section Terms of the chapter word by word: it holds each ballot against each other one, each song against each other one, and goes through all ways to vote. The other tests hold the package against it.

import (
	"iter"
	"math/rand/v2"
	"slices"

	"bateria/api"
)

const sure, never, open = api.Sure, api.Never, api.Open

func jury(serial, round, voter, song, points int) api.Ballot {
	return api.Ballot{Serial: serial, Round: round, Kind: api.BallotJury, Voter: voter, Song: song, Points: points}
}

func member(serial, round, voter, song int) api.Ballot {
	return api.Ballot{Serial: serial, Round: round, Kind: api.BallotMember, Voter: voter, Song: song}
}

// samba is the contest C of the chapter's examples, opened are its ballots L.
func samba() api.Contest {
	return api.Contest{Songs: 3, Juries: 2, Members: 3, Most: 10, Rounds: []api.Round{{Keep: 2, Jury: 1, Member: 2}, {Keep: 1, Jury: 1, Member: 3}}}
}

func opened() []api.Ballot {
	return []api.Ballot{
		jury(1, 0, 0, 0, 7), jury(2, 0, 0, 1, 9), jury(3, 0, 1, 2, 8),
		member(4, 0, 0, 0), member(5, 0, 0, 1), member(6, 0, 1, 0),
		member(7, 1, 0, 2), member(8, 1, 0, 1), jury(9, 1, 1, 1, 4), member(10, 1, 1, 0),
	}
}

// pair is the contest D of the chapter's examples, both are its ballots K.
func pair() api.Contest {
	return api.Contest{Songs: 2, Members: 3, Rounds: []api.Round{{Keep: 1, Member: 1}}}
}

func both() []api.Ballot { return []api.Ballot{member(1, 0, 0, 0), member(2, 0, 1, 0)} }

// changed is samba after a change.
func changed(change func(c *api.Contest)) api.Contest {
	c := samba()
	change(&c)
	return c
}

// reopened are the ballots of samba after a change.
func reopened(change func(l []api.Ballot)) []api.Ballot {
	l := opened()
	change(l)
	return l
}

// greatest is a contest and ballots with the greatest numbers that may be, all of which count.
func greatest() (api.Contest, []api.Ballot) {
	c := api.Contest{Songs: 8, Juries: 8, Members: 1000, Most: 100}
	for _, keep := range []int{8, 8, 8, 1} {
		c.Rounds = append(c.Rounds, api.Round{Keep: keep, Jury: 1000, Member: 1000})
	}
	var l []api.Ballot
	for i := range 300 {
		l = append(l, member(1000000000-i, 3, 999-i, 7))
	}
	for i := range 64 {
		l[i] = jury(1000000000-i, 3, i/8, i%8, 100)
	}
	return c, l
}

// result is what is known of a round; the songs are numbered as in the contest.
type result struct {
	songs         []int
	points, votes map[int]int
	kept          []int
}

// ofRound says whether a ballot is of a round, and for one of these songs.
func ofRound(b api.Ballot, round int, songs []int) bool {
	return b.Round == round && slices.Contains(songs, b.Song)
}

// isFirst says whether a ballot counts in a round with these songs.
func isFirst(l []api.Ballot, i, round int, songs []int) bool {
	b := l[i]
	if !ofRound(b, round, songs) {
		return false
	}
	for _, other := range l {
		same := other.Kind == b.Kind && other.Voter == b.Voter && ofRound(other, round, songs)
		if b.Kind == api.BallotJury && other.Song != b.Song {
			same = false
		}
		if same && other.Serial < b.Serial {
			return false
		}
	}
	return true
}

// first says whether a song is ahead of another one.
func first(r api.Round, x result, a, b int) bool {
	scoreA, scoreB := r.Jury*x.points[a]+r.Member*x.votes[a], r.Jury*x.points[b]+r.Member*x.votes[b]
	if scoreA != scoreB {
		return scoreA > scoreB
	}
	if x.points[a] != x.points[b] {
		return x.points[a] > x.points[b]
	}
	return a < b
}

// keep are the songs that have too few songs ahead of them to be left out.
func keep(r api.Round, x result) []int {
	var kept []int
	for _, song := range x.songs {
		before := 0
		for _, other := range x.songs {
			if other != song && first(r, x, other, song) {
				before++
			}
		}
		if before < r.Keep {
			kept = append(kept, song)
		}
	}
	return kept
}

// rounds are the results of all rounds, and which ballots count.
func rounds(c api.Contest, l []api.Ballot) ([]result, []bool) {
	var all []result
	counts := make([]bool, len(l))
	var songs []int
	for i := range c.Songs {
		songs = append(songs, i)
	}
	for n, r := range c.Rounds {
		x := result{songs: songs, points: map[int]int{}, votes: map[int]int{}}
		for i, b := range l {
			if !isFirst(l, i, n, songs) {
				continue
			}
			counts[i] = true
			x.points[b.Song] += b.Points
			if b.Kind == api.BallotMember {
				x.votes[b.Song]++
			}
		}
		x.kept = keep(r, x)
		songs = x.kept
		all = append(all, x)
	}
	return all, counts
}

// hasVoted says whether a ballot counts in a round that is of somebody, and, for a jury, for a song.
func hasVoted(l []api.Ballot, counts []bool, round, kind, voter, song int) bool {
	for i, b := range l {
		if counts[i] && b.Round == round && b.Kind == kind && b.Voter == voter && (kind == api.BallotMember || b.Song == song) {
			return true
		}
	}
	return false
}

// choice is somebody who has not voted yet: a member, who may vote for any song, or a jury for a song.
type choice struct{ kind, voter, song int }

// choices are those who have not voted yet in a round.
func choices(c api.Contest, l []api.Ballot, round int) []choice {
	all, counts := rounds(c, l)
	var list []choice
	for voter := range c.Members {
		if !hasVoted(l, counts, round, api.BallotMember, voter, 0) {
			list = append(list, choice{api.BallotMember, voter, 0})
		}
	}
	for _, song := range all[round].songs {
		for voter := range c.Juries {
			if !hasVoted(l, counts, round, api.BallotJury, voter, song) {
				list = append(list, choice{api.BallotJury, voter, song})
			}
		}
	}
	return list
}

// ways is in how many ways these may vote.
func ways(c api.Contest, x result, list []choice) int {
	many := 1
	for _, who := range list {
		if who.kind == api.BallotMember {
			many *= len(x.songs) + 1
		} else {
			many *= c.Most + 1
		}
		if many > 1000000 {
			return many
		}
	}
	return many
}

// goneThrough hands out the ballots of all ways in which those may vote who have not yet. A member who does not vote has none; the same list is handed out each time.
func goneThrough(c api.Contest, x result, round int, list []choice) iter.Seq[[]api.Ballot] {
	return func(yield func([]api.Ballot) bool) {
		var more []api.Ballot
		var next func(i int) bool
		next = func(i int) bool {
			if i == len(list) {
				return yield(more)
			}
			who, serial := list[i], 900000000+i
			var each []api.Ballot
			if who.kind == api.BallotMember {
				if !next(i + 1) {
					return false
				}
				for _, song := range x.songs {
					each = append(each, member(serial, round, who.voter, song))
				}
			} else {
				for points := range c.Most + 1 {
					each = append(each, jury(serial, round, who.voter, who.song, points))
				}
			}
			for _, b := range each {
				more = append(more, b)
				if !next(i + 1) {
					return false
				}
				more = more[:len(more)-1]
			}
			return true
		}
		next(0)
	}
}

// future is what a song may come to: whether it may be kept and not kept, and with how many votes more, and none for others, it may be kept.
type future struct {
	kept, lost bool
	votes      map[int]bool
}

// futures goes through all that could still be in a round, song by song of the contest.
func futures(c api.Contest, l []api.Ballot, round int) []future {
	all, _ := rounds(c, l)
	x := all[round]
	list := make([]future, c.Songs)
	for i := range list {
		list[i].votes = map[int]bool{}
	}
	for more := range goneThrough(c, x, round, choices(c, l, round)) {
		for _, b := range more {
			x.points[b.Song] += b.Points
			x.votes[b.Song] += b.Kind - api.BallotJury
		}
		kept := keep(c.Rounds[round], x)
		for song := range c.Songs {
			look(&list[song], more, song, slices.Contains(kept, song))
		}
		for _, b := range more {
			x.points[b.Song] -= b.Points
			x.votes[b.Song] -= b.Kind - api.BallotJury
		}
	}
	return list
}

// look notes one way to vote.
func look(f *future, more []api.Ballot, song int, kept bool) {
	if !kept {
		f.lost = true
		return
	}
	f.kept = true
	votes := 0
	for _, b := range more {
		switch {
		case b.Kind == api.BallotMember && b.Song == song:
			votes++
		case b.Kind == api.BallotMember:
			return
		}
	}
	f.votes[votes] = true
}

func (f future) verdict() int {
	switch {
	case !f.lost:
		return sure
	case !f.kept:
		return never
	}
	return open
}

// needs is the least number of votes with which a song may be kept.
func (f future) needs() (int, api.Errno) {
	for votes := range 1001 {
		if f.votes[votes] {
			return votes, api.OK
		}
	}
	return 0, api.ErrMissing
}

// isFor is the song for which a list is, -1 for none.
func isFor(list []int, out []int) int {
	for _, song := range list {
		if !slices.Contains(out, song) {
			return song
		}
	}
	return -1
}

// leftOut leaves out one song after the other.
func leftOut(songs int, prefs [][]int) (out []int, winner int) {
	for len(out) < songs-1 {
		weakest, fewest := 0, len(prefs)+1
		for song := songs - 1; song >= 0; song-- {
			lists := 0
			for _, list := range prefs {
				if isFor(list, out) == song {
					lists++
				}
			}
			if !slices.Contains(out, song) && lists < fewest {
				weakest, fewest = song, lists
			}
		}
		out = append(out, weakest)
	}
	for song := range songs {
		if !slices.Contains(out, song) {
			winner = song
		}
	}
	return out, winner
}

// duels compares each song with each other one.
func duels(songs int, prefs [][]int) (over [][]int, best int) {
	over = make([][]int, songs)
	for a := range songs {
		over[a] = make([]int, songs)
		for b := range songs {
			for _, list := range prefs {
				stands, before := false, false
				for _, song := range list {
					before = before || song == b && !stands
					stands = stands || song == a
				}
				if a != b && stands && !before {
					over[a][b]++
				}
			}
		}
	}
	best = -1
	for a := range songs {
		wins := 0
		for b := range songs {
			if over[a][b] > over[b][a] {
				wins++
			}
		}
		if wins == songs-1 {
			best = a
		}
	}
	return over, best
}

// trial is a small contest with ballots.
type trial struct {
	c api.Contest
	l []api.Ballot
}

// trials are small valid contests with up to so many ballots, the same ones each time.
func trials(many, ballots int) []trial {
	pick := rand.New(rand.NewPCG(7, 8))
	var all []trial
	for range many {
		x := trial{c: smallContest(pick)}
		serials := pick.Perm(2 * ballots)
		for i := range pick.IntN(ballots + 1) {
			b := smallBallot(pick, x.c)
			if b.Serial = serials[i] + 1; b.Kind > 0 {
				x.l = append(x.l, b)
			}
		}
		all = append(all, x)
	}
	return all
}

func smallContest(pick *rand.Rand) api.Contest {
	c := api.Contest{Songs: 1 + pick.IntN(4), Juries: pick.IntN(3), Members: pick.IntN(5), Most: pick.IntN(3)}
	keep := c.Songs
	for range pick.IntN(3) {
		keep = 1 + pick.IntN(keep)
		c.Rounds = append(c.Rounds, api.Round{Keep: keep, Jury: pick.IntN(4), Member: pick.IntN(4)})
	}
	c.Rounds = append(c.Rounds, api.Round{Keep: 1, Jury: pick.IntN(4), Member: pick.IntN(4)})
	return c
}

// smallBallot is a ballot of a jury or of a member, or nothing if there is none.
func smallBallot(pick *rand.Rand, c api.Contest) api.Ballot {
	round, song := pick.IntN(len(c.Rounds)), pick.IntN(c.Songs)
	switch {
	case c.Juries > 0 && (c.Members == 0 || pick.IntN(2) == 0):
		return jury(1, round, pick.IntN(c.Juries), song, pick.IntN(c.Most+1))
	case c.Members > 0:
		return member(1, round, pick.IntN(c.Members), song)
	}
	return api.Ballot{}
}

// preference is some songs and lists of preferences.
type preference struct {
	songs int
	prefs [][]int
}

// preferences are small lists, the same ones each time.
func preferences(many, lists int) []preference {
	pick := rand.New(rand.NewPCG(9, 10))
	var all []preference
	for range many {
		x := preference{songs: 1 + pick.IntN(5)}
		for range pick.IntN(lists + 1) {
			x.prefs = append(x.prefs, pick.Perm(x.songs)[:pick.IntN(x.songs+1)])
		}
		all = append(all, x)
	}
	return all
}
