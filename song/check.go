package song

import (
	"slices"

	"bateria/api"
)

// Check returns the first error of a contest.
func Check(c api.Contest) api.Errno {
	switch {
	case !within(c.Songs, 1, api.MaxSongs) || !within(c.Juries, 0, api.MaxJuries):
		return api.ErrRange
	case !within(c.Members, 0, api.MaxMembers) || !within(c.Most, 0, api.MaxPoint):
		return api.ErrRange
	case len(c.Rounds) == 0:
		return api.ErrShort
	case len(c.Rounds) > api.MaxRounds:
		return api.ErrFull
	}
	return checkRounds(c)
}

// CheckBallots returns the first error of a contest, then that of its ballots.
func CheckBallots(c api.Contest, l []api.Ballot) api.Errno {
	if e := Check(c); e != api.OK {
		return e
	}
	if len(l) > api.MaxBallots {
		return api.ErrFull
	}
	for i, b := range l {
		if e := checkSerial(l[:i], b.Serial); e != api.OK {
			return e
		}
		if e := checkBallot(c, b); e != api.OK {
			return e
		}
	}
	return api.OK
}

func checkRounds(c api.Contest) api.Errno {
	songs := c.Songs
	for _, r := range c.Rounds {
		if !within(r.Jury, 0, api.MaxWeight) || !within(r.Member, 0, api.MaxWeight) || !within(r.Keep, 1, songs) {
			return api.ErrRange
		}
		songs = r.Keep
	}
	if songs != 1 {
		return api.ErrForm
	}
	return api.OK
}

// checkSerial returns the error of the serial number of a ballot that comes after others.
func checkSerial(before []api.Ballot, serial int) api.Errno {
	if !within(serial, 1, api.MaxSerial) {
		return api.ErrRange
	}
	if slices.ContainsFunc(before, func(b api.Ballot) bool { return b.Serial == serial }) {
		return api.ErrExists
	}
	return api.OK
}

// checkBallot returns the first error of what a ballot says behind its serial number.
func checkBallot(c api.Contest, b api.Ballot) api.Errno {
	byJury, voters := b.Kind == api.BallotJury, c.Members
	if byJury {
		voters = c.Juries
	}
	switch {
	case !isNumber(b.Round, len(c.Rounds)):
		return api.ErrRange
	case !byJury && b.Kind != api.BallotMember:
		return api.ErrKind
	case !isNumber(b.Voter, voters) || !isNumber(b.Song, c.Songs):
		return api.ErrMissing
	case byJury && !within(b.Points, 0, c.Most):
		return api.ErrRange
	case !byJury && b.Points != 0:
		return api.ErrForm
	}
	return api.OK
}

// checkPrefs returns the first error of preferences of some songs.
func checkPrefs(songs int, prefs [][]int) api.Errno {
	switch {
	case !within(songs, 1, api.MaxSongs):
		return api.ErrRange
	case len(prefs) > api.MaxPrefs:
		return api.ErrFull
	}
	for _, list := range prefs {
		if e := checkList(songs, list); e != api.OK {
			return e
		}
	}
	return api.OK
}

func checkList(songs int, list []int) api.Errno {
	for i, song := range list {
		switch {
		case !isNumber(song, songs):
			return api.ErrMissing
		case slices.Contains(list[:i], song):
			return api.ErrExists
		}
	}
	return api.OK
}

// isNumber says whether a number is that of one of so many things.
func isNumber(n, many int) bool { return within(n, 0, many-1) }

func within(n, least, most int) bool { return n >= least && n <= most }
