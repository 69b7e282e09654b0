package song

import (
	"bateria/api"
	"bateria/rows"
)

const maxDigits = 10

// Write returns the urn of a contest and its ballots.
func Write(c api.Contest, l []api.Ballot) (string, api.Errno) {
	if e := CheckBallots(c, l); e != api.OK {
		return "", e
	}
	text := rows.Row("contest", c.Songs, c.Juries, c.Members, c.Most)
	for _, r := range c.Rounds {
		text += rows.Row("round", r.Keep, r.Jury, r.Member)
	}
	for _, b := range l {
		text += rows.Row("ballot", b.Serial, b.Round, b.Kind, b.Voter, b.Song, b.Points)
	}
	return text + rows.Row("end", len(l)), api.OK
}

// Read returns the contest and the ballots of an urn; or an error, and its row or 0.
func Read(text string) (c api.Contest, l []api.Ballot, row int, e api.Errno) {
	if len(text) > api.MaxUrn {
		return api.Contest{}, nil, 0, api.ErrLong
	}
	r := reader{}
	if wrong := rows.Wrong(text, r.take); wrong > 0 {
		return api.Contest{}, nil, wrong, api.ErrForm
	}
	if e := CheckBallots(r.contest, r.ballots); e != api.OK {
		return api.Contest{}, nil, 0, e
	}
	return r.contest, r.ballots, 0, api.OK
}

// reader is what was read of an urn so far.
type reader struct {
	contest api.Contest
	ballots []api.Ballot
}

// take reads the words of a row, and says whether they are as they have to be.
func (r *reader) take(row int, words []string) bool {
	first, others := words[0], words[1:]
	switch {
	case row == 1:
		c := &r.contest
		return first == "contest" && rows.Numbers(others, maxDigits, &c.Songs, &c.Juries, &c.Members, &c.Most)
	case first == "round":
		return len(r.ballots) == 0 && r.takeRound(others)
	case first == "ballot":
		return r.takeBallot(others)
	case first == "end":
		ballots := 0
		return rows.Numbers(others, maxDigits, &ballots) && ballots == len(r.ballots)
	}
	return false
}

func (r *reader) takeRound(words []string) bool {
	x := api.Round{}
	if !rows.Numbers(words, maxDigits, &x.Keep, &x.Jury, &x.Member) {
		return false
	}
	r.contest.Rounds = append(r.contest.Rounds, x)
	return true
}

func (r *reader) takeBallot(words []string) bool {
	b := api.Ballot{}
	if !rows.Numbers(words, maxDigits, &b.Serial, &b.Round, &b.Kind, &b.Voter, &b.Song, &b.Points) {
		return false
	}
	r.ballots = append(r.ballots, b)
	return true
}
