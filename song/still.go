package song

import (
	"cmp"
	"iter"
	"slices"
	"sort"

	"bateria/api"
)

// Stays returns for each song the verdict on whether a round keeps it, in what could still be.
func Stays(c api.Contest, l []api.Ballot, round int) ([]int, api.Errno) {
	s, e := stillOpen(c, l, round)
	if e != api.OK {
		return nil, e
	}
	verdicts := make([]int, c.Songs)
	for song := range c.Songs {
		verdicts[song] = api.Never
		if slices.Contains(s.songs, song) {
			verdicts[song] = s.verdict(song)
		}
	}
	return verdicts, api.OK
}

// Needs returns how many members have at least to vote for a song, so that a round may still keep it.
func Needs(c api.Contest, l []api.Ballot, round, song int) (int, api.Errno) {
	s, e := stillOpen(c, l, round)
	if e != api.OK {
		return 0, e
	}
	if !slices.Contains(s.songs, song) {
		return 0, api.ErrMissing
	}
	for votes, way := range s.votesFor(song) {
		if s.keeps(song, way) {
			return votes, api.OK
		}
	}
	return 0, api.ErrMissing
}

// still is a round in which not all have voted yet: how many members have not, and how many points more juries may give each song.
type still struct {
	count
	members int
	points  [api.MaxSongs]int
}

// stillOpen returns the first error of a contest, its ballots and the number of a round; otherwise the round as far as its ballots go.
func stillOpen(c api.Contest, l []api.Ballot, round int) (still, api.Errno) {
	if e := CheckBallots(c, l); e != api.OK {
		return still{}, e
	}
	if !isNumber(round, len(c.Rounds)) {
		return still{}, api.ErrRange
	}
	s := still{count: countAll(c, l)[round], members: c.Members}
	for _, song := range s.songs {
		s.points[song] = c.Juries * c.Most
	}
	for use := range s.first {
		if use.kind == api.BallotMember {
			s.members--
		} else {
			s.points[use.song] -= c.Most
		}
	}
	return s, api.OK
}

// verdict says whether the round keeps one of its songs.
func (s still) verdict(song int) int {
	kept, lost := false, false
	for way := range s.extremes(song) {
		if s.keeps(song, way) {
			kept = true
		} else {
			lost = true
		}
	}
	switch {
	case !lost:
		return api.Sure
	case !kept:
		return api.Never
	}
	return api.Open
}

// keeps says whether the round keeps a song with a tally.
func (s still) keeps(song int, way tally) bool { return slices.Contains(s.kept(way), song) }

// extremes hands out two ways to vote: nothing that could still be is better for a song than the first one, and nothing is worse than the second one.
func (s still) extremes(song int) iter.Seq[tally] {
	return func(yield func(tally) bool) {
		if yield(s.best(song, s.members)) {
			yield(s.worst(song))
		}
	}
}

// votesFor hands out the ways to vote in which some members, none, one, two and so on, vote for a song and all others do not; each is the best one for the song with so many votes.
func (s still) votesFor(song int) iter.Seq2[int, tally] {
	return func(yield func(int, tally) bool) {
		for votes := range s.members + 1 {
			if !yield(votes, s.best(song, votes)) {
				return
			}
		}
	}
}

// best is a round in which so many members and all juries do what they can for a song, and nothing for the others.
func (s still) best(song, votes int) tally {
	return s.tally.with(song, share{points: s.points[song], votes: votes})
}

// worst is a round in which members and juries put as many rivals as they can ahead of a song: it counts how many are, not how far, so the votes go first to those who need the fewest.
func (s still) worst(song int) tally {
	way := s.tally
	for _, rival := range s.songs {
		if rival != song {
			way = way.with(rival, share{points: s.points[rival]})
		}
	}
	left := s.members
	for _, r := range s.rivals(way, song) {
		if r.needs > left {
			break
		}
		left -= r.needs
		way = way.with(r.song, share{votes: r.needs})
	}
	return way
}

// rival is a song, and how many votes more it needs to be ahead of another one.
type rival struct{ song, needs int }

// rivals are the other songs of the round, those that need the fewest votes first.
func (s still) rivals(way tally, song int) []rival {
	var others []rival
	for _, other := range s.songs {
		if other != song {
			others = append(others, rival{other, s.needed(way, other, song)})
		}
	}
	return ordered(others, func(a, b rival) int { return cmp.Compare(a.needs, b.needs) })
}

// needed is how many votes more a song needs to be ahead of another one; more than there are, if all of them do not suffice.
func (s still) needed(way tally, song, other int) int {
	return sort.Search(s.members+1, func(votes int) bool {
		return ahead(s.round, way.with(song, share{votes: votes}))(song, other) < 0
	})
}
