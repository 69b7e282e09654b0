package song_test

import (
	"reflect"
	"slices"
	"testing"

	"bateria/api"
	"bateria/song"
)

var contests = []struct {
	about  string
	change func(c *api.Contest)
	want   api.Errno
}{
	{"the example", func(c *api.Contest) {}, api.OK},
	{"nothing", func(c *api.Contest) { *c = api.Contest{} }, api.ErrRange},
	{"least numbers", func(c *api.Contest) { *c = api.Contest{Songs: 1, Rounds: []api.Round{{Keep: 1}}} }, api.OK},
	{"greatest numbers", func(c *api.Contest) { *c, _ = greatest() }, api.OK},
	// numbers
	{"no songs", func(c *api.Contest) { c.Songs = 0 }, api.ErrRange},
	{"songs below 0", func(c *api.Contest) { c.Songs = -1 }, api.ErrRange},
	{"as many songs as may be", func(c *api.Contest) { c.Songs = 8 }, api.OK},
	{"too many songs", func(c *api.Contest) { c.Songs = 9 }, api.ErrRange},
	{"no juries", func(c *api.Contest) { c.Juries = 0 }, api.OK},
	{"juries below 0", func(c *api.Contest) { c.Juries = -1 }, api.ErrRange},
	{"as many juries as may be", func(c *api.Contest) { c.Juries = 8 }, api.OK},
	{"too many juries", func(c *api.Contest) { c.Juries = 9 }, api.ErrRange},
	{"no members", func(c *api.Contest) { c.Members = 0 }, api.OK},
	{"members below 0", func(c *api.Contest) { c.Members = -1 }, api.ErrRange},
	{"as many members as may be", func(c *api.Contest) { c.Members = 1000 }, api.OK},
	{"too many members", func(c *api.Contest) { c.Members = 1001 }, api.ErrRange},
	{"no points", func(c *api.Contest) { c.Most = 0 }, api.OK},
	{"points below 0", func(c *api.Contest) { c.Most = -1 }, api.ErrRange},
	{"as many points as may be", func(c *api.Contest) { c.Most = 100 }, api.OK},
	{"too many points", func(c *api.Contest) { c.Most = 101 }, api.ErrRange},
	// how many rounds
	{"no rounds", func(c *api.Contest) { c.Rounds = nil }, api.ErrShort},
	{"no rounds, not nil", func(c *api.Contest) { c.Rounds = []api.Round{} }, api.ErrShort},
	{"songs before no rounds", func(c *api.Contest) { c.Songs, c.Rounds = 9, nil }, api.ErrRange},
	{"juries before no rounds", func(c *api.Contest) { c.Juries, c.Rounds = -1, nil }, api.ErrRange},
	{"members before too many rounds", func(c *api.Contest) { c.Members, c.Rounds = -1, make([]api.Round, 5) }, api.ErrRange},
	{"points before too many rounds", func(c *api.Contest) { c.Most, c.Rounds = 101, make([]api.Round, 5) }, api.ErrRange},
	{"one round", func(c *api.Contest) { c.Rounds = c.Rounds[1:] }, api.OK},
	{"as many rounds as may be", func(c *api.Contest) { c.Rounds = append(c.Rounds, c.Rounds[1], c.Rounds[1]) }, api.OK},
	{"too many rounds", func(c *api.Contest) { c.Rounds = slices.Repeat(c.Rounds[1:], 5) }, api.ErrFull},
	{"too many rounds before what they are", func(c *api.Contest) { c.Rounds = make([]api.Round, 5) }, api.ErrFull},
	// rounds
	{"a weight of juries below 0", func(c *api.Contest) { c.Rounds[0].Jury = -1 }, api.ErrRange},
	{"the greatest weight of juries", func(c *api.Contest) { c.Rounds[0].Jury = 1000 }, api.OK},
	{"too great a weight of juries", func(c *api.Contest) { c.Rounds[1].Jury = 1001 }, api.ErrRange},
	{"a weight of members below 0", func(c *api.Contest) { c.Rounds[1].Member = -1 }, api.ErrRange},
	{"the greatest weight of members", func(c *api.Contest) { c.Rounds[0].Member = 1000 }, api.OK},
	{"too great a weight of members", func(c *api.Contest) { c.Rounds[0].Member = 1001 }, api.ErrRange},
	{"no weights", func(c *api.Contest) { c.Rounds[0], c.Rounds[1] = api.Round{Keep: 2}, api.Round{Keep: 1} }, api.OK},
	{"a round keeps nothing", func(c *api.Contest) { c.Rounds[0].Keep = 0 }, api.ErrRange},
	{"a round keeps less than nothing", func(c *api.Contest) { c.Rounds[0].Keep = -1 }, api.ErrRange},
	{"a round keeps one", func(c *api.Contest) { c.Rounds[0].Keep = 1 }, api.OK},
	{"a round keeps all", func(c *api.Contest) { c.Rounds[0].Keep = 3 }, api.OK},
	{"a round keeps more than all", func(c *api.Contest) { c.Rounds[0].Keep = 4 }, api.ErrRange},
	{"a round keeps more than the one before it", func(c *api.Contest) { c.Rounds[1].Keep = 3 }, api.ErrRange},
	{"a round keeps more than the one before that", func(c *api.Contest) {
		c.Rounds = []api.Round{{Keep: 3}, {Keep: 1}, {Keep: 2}, {Keep: 1}}
	}, api.ErrRange},
	{"a round keeps as many as the one before it", func(c *api.Contest) { c.Rounds = []api.Round{{Keep: 2}, {Keep: 2}, {Keep: 1}} }, api.OK},
	{"the last round keeps nothing", func(c *api.Contest) { c.Rounds[1].Keep = 0 }, api.ErrRange},
	{"the last round keeps two", func(c *api.Contest) { c.Rounds[1].Keep = 2 }, api.ErrForm},
	{"the only round keeps all", func(c *api.Contest) { c.Rounds = []api.Round{{Keep: 3}} }, api.ErrForm},
	{"the only round keeps all, which is one", func(c *api.Contest) { c.Songs, c.Rounds = 1, []api.Round{{Keep: 1}} }, api.OK},
	{"a weight before what the last round keeps", func(c *api.Contest) { c.Rounds[1] = api.Round{Keep: 2, Member: -1} }, api.ErrRange},
}

var ballots = []struct {
	about  string
	change func(l []api.Ballot)
	want   api.Errno
}{
	{"the example", func(l []api.Ballot) {}, api.OK},
	{"a serial number of 0", func(l []api.Ballot) { l[0].Serial = 0 }, api.ErrRange},
	{"a serial number below 0", func(l []api.Ballot) { l[9].Serial = -1 }, api.ErrRange},
	{"the greatest serial number", func(l []api.Ballot) { l[0].Serial = 1000000000 }, api.OK},
	{"too great a serial number", func(l []api.Ballot) { l[0].Serial = 1000000001 }, api.ErrRange},
	{"the same serial number", func(l []api.Ballot) { l[9].Serial = 1 }, api.ErrExists},
	{"the same serial number in another round, of another kind", func(l []api.Ballot) { l[9].Serial = 2 }, api.ErrExists},
	{"a serial number before the same one", func(l []api.Ballot) { l[0].Serial, l[2].Serial = 0, 2 }, api.ErrRange},
	{"the same one before a serial number", func(l []api.Ballot) { l[2].Serial, l[3].Serial = 2, 0 }, api.ErrExists},
	{"the same serial number before the round", func(l []api.Ballot) { l[9].Serial, l[9].Round = 1, 2 }, api.ErrExists},
	{"the round before the same serial number in the next one", func(l []api.Ballot) { l[8].Kind, l[9].Serial = 3, 1 }, api.ErrKind},
	{"other numbers, in another order", func(l []api.Ballot) { l[0].Serial, l[1].Serial, l[2].Serial = 999, 3, 2 }, api.OK},
	{"a round below 0", func(l []api.Ballot) { l[4].Round = -1 }, api.ErrRange},
	{"a round that is not", func(l []api.Ballot) { l[4].Round = 2 }, api.ErrRange},
	{"a round before the kind", func(l []api.Ballot) { l[4].Round, l[4].Kind = 2, 0 }, api.ErrRange},
	{"no kind", func(l []api.Ballot) { l[4].Kind = 0 }, api.ErrKind},
	{"a kind below 0", func(l []api.Ballot) { l[4].Kind = -1 }, api.ErrKind},
	{"a kind that is not", func(l []api.Ballot) { l[4].Kind = 3 }, api.ErrKind},
	{"a kind before the voter", func(l []api.Ballot) { l[4].Kind, l[4].Voter = 3, 9 }, api.ErrKind},
	{"a kind before the song", func(l []api.Ballot) { l[4].Kind, l[4].Song = 3, 9 }, api.ErrKind},
	{"a kind before points", func(l []api.Ballot) { l[4].Kind, l[4].Points = 3, 1 }, api.ErrKind},
	{"a jury below 0", func(l []api.Ballot) { l[0].Voter = -1 }, api.ErrMissing},
	{"the last jury", func(l []api.Ballot) { l[0].Voter = 1 }, api.OK},
	{"a jury that is not, but a member", func(l []api.Ballot) { l[0].Voter = 2 }, api.ErrMissing},
	{"a member below 0", func(l []api.Ballot) { l[4].Voter = -1 }, api.ErrMissing},
	{"the last member", func(l []api.Ballot) { l[4].Voter = 2 }, api.OK},
	{"a member who is not", func(l []api.Ballot) { l[4].Voter = 3 }, api.ErrMissing},
	{"a voter before points of a jury", func(l []api.Ballot) { l[0].Voter, l[0].Points = 2, 11 }, api.ErrMissing},
	{"a voter before points of a member", func(l []api.Ballot) { l[4].Voter, l[4].Points = 3, 1 }, api.ErrMissing},
	{"a song below 0", func(l []api.Ballot) { l[0].Song = -1 }, api.ErrMissing},
	{"a song that is not", func(l []api.Ballot) { l[4].Song = 3 }, api.ErrMissing},
	{"a song that is not one of its round any more", func(l []api.Ballot) { l[9].Song = 2 }, api.OK},
	{"a song before points of a jury", func(l []api.Ballot) { l[0].Song, l[0].Points = 3, 11 }, api.ErrMissing},
	{"a song before points of a member", func(l []api.Ballot) { l[4].Song, l[4].Points = 3, 1 }, api.ErrMissing},
	{"no points of a jury", func(l []api.Ballot) { l[0].Points = 0 }, api.OK},
	{"points of a jury below 0", func(l []api.Ballot) { l[0].Points = -1 }, api.ErrRange},
	{"the most points of a jury", func(l []api.Ballot) { l[0].Points = 10 }, api.OK},
	{"too many points of a jury", func(l []api.Ballot) { l[0].Points = 11 }, api.ErrRange},
	{"points of a member", func(l []api.Ballot) { l[4].Points = 1 }, api.ErrForm},
	{"points of a member below 0", func(l []api.Ballot) { l[4].Points = -1 }, api.ErrForm},
	{"points of a member before the serial number of the next one", func(l []api.Ballot) { l[4].Points, l[5].Serial = 1, 0 }, api.ErrForm},
	{"the serial number of one before points of the next one", func(l []api.Ballot) { l[4].Serial, l[5].Points = 0, 1 }, api.ErrRange},
}

// P4.1: Check, and the errors that the others return first.
func TestCheck(t *testing.T) {
	for _, x := range contests {
		c := changed(x.change)
		if e := song.Check(c); e != x.want {
			t.Error(x.about, e)
		}
		// a contest that is valid lets the ballots be looked at
		want := x.want
		if want == api.OK {
			want = api.ErrFull
		}
		for name, e := range errors(c, make([]api.Ballot, 301), 9, 9) {
			if e != want {
				t.Error(x.about, name, e)
			}
		}
	}
}

// P4.1: CheckBallots, and the errors that the others return then.
func TestCheckBallots(t *testing.T) {
	for _, x := range ballots {
		l := reopened(x.change)
		if e := song.CheckBallots(samba(), l); e != x.want {
			t.Error(x.about, e)
		}
		for name, e := range errors(samba(), l, 9, 9) {
			want := x.want
			if want == api.OK && (name == "Stays" || name == "Needs") {
				want = api.ErrRange
			}
			if e != want {
				t.Error(x.about, name, e)
			}
		}
	}
	c, l := greatest()
	for _, x := range []struct {
		l    []api.Ballot
		want api.Errno
	}{
		{nil, api.OK},
		{[]api.Ballot{}, api.OK},
		{l, api.OK},
		{append(slices.Clone(l), member(1, 0, 0, 0)), api.ErrFull},
		{make([]api.Ballot, 300), api.ErrRange},
		{make([]api.Ballot, 301), api.ErrFull},
	} {
		if e := song.CheckBallots(c, x.l); e != x.want {
			t.Error(len(x.l), e)
		}
	}
	// no juries, and no members
	if e := song.CheckBallots(pair(), []api.Ballot{jury(1, 0, 0, 0, 0)}); e != api.ErrMissing {
		t.Error(e)
	}
	none := pair()
	none.Members = 0
	if e := song.CheckBallots(none, both()); e != api.ErrMissing {
		t.Error(e)
	}
}

// errors are the errors of all functions that look at a contest and its ballots.
func errors(c api.Contest, l []api.Ballot, round, which int) map[string]api.Errno {
	all := map[string]api.Errno{"CheckBallots": song.CheckBallots(c, l)}
	_, _, all["Run"] = song.Run(c, l)
	_, all["Counts"] = song.Counts(c, l)
	_, all["Stays"] = song.Stays(c, l, round)
	_, all["Needs"] = song.Needs(c, l, round, which)
	_, all["Write"] = song.Write(c, l)
	return all
}

// P4.1: Run, with the chapter's examples.
func TestRun(t *testing.T) {
	results, winner, e := song.Run(samba(), opened())
	want := []api.Result{
		{Songs: []int{0, 1, 2}, Points: []int{7, 9, 8}, Votes: []int{2, 0, 0}, Scores: []int{11, 9, 8}, Kept: []int{0, 1}},
		{Songs: []int{0, 1}, Points: []int{0, 4}, Votes: []int{1, 1}, Scores: []int{3, 7}, Kept: []int{1}},
	}
	if !reflect.DeepEqual(results, want) || winner != 1 || e != api.OK {
		t.Error(results, winner, e)
	}
}

// P4.1: who is ahead, and which songs are kept.
func TestAhead(t *testing.T) {
	three := func(keep, juries, members int) api.Contest {
		return api.Contest{Songs: 3, Juries: 1, Members: 9, Most: 9, Rounds: []api.Round{{Keep: keep, Jury: juries, Member: members}, {Keep: 1}}}
	}
	for _, x := range []struct {
		about  string
		c      api.Contest
		l      []api.Ballot
		scores []int
		kept   []int
		winner int
	}{
		{"nobody votes", three(2, 1, 1), nil, []int{0, 0, 0}, []int{0, 1}, 0},
		{"a greater score", three(1, 1, 1), []api.Ballot{member(1, 0, 0, 2)}, []int{0, 0, 1}, []int{2}, 2},
		{"more points at the same score", three(1, 1, 2), []api.Ballot{member(1, 0, 0, 0), jury(2, 0, 0, 2, 2)}, []int{2, 0, 2}, []int{2}, 2},
		{"more votes than points at the same score", three(1, 2, 1), []api.Ballot{member(1, 0, 0, 0), member(2, 0, 1, 0), jury(3, 0, 0, 2, 1)}, []int{2, 0, 2}, []int{2}, 2},
		{"a greater score with fewer points", three(1, 1, 3), []api.Ballot{member(1, 0, 0, 1), jury(2, 0, 0, 0, 2)}, []int{2, 3, 0}, []int{1}, 1},
		{"a lesser number at the same score and points", three(1, 1, 1), []api.Ballot{jury(1, 0, 0, 2, 2), jury(2, 0, 0, 1, 2)}, []int{0, 2, 2}, []int{1}, 1},
		{"points that weigh nothing", three(1, 0, 1), []api.Ballot{jury(1, 0, 0, 2, 2), jury(2, 0, 0, 1, 3)}, []int{0, 0, 0}, []int{1}, 1},
		{"votes that weigh nothing", three(1, 1, 0), []api.Ballot{member(1, 0, 0, 2), member(2, 0, 1, 2)}, []int{0, 0, 0}, []int{0}, 0},
		{"kept songs in the order of their numbers", three(2, 1, 1), []api.Ballot{member(1, 0, 0, 2), member(2, 0, 1, 2), member(3, 0, 2, 1)}, []int{0, 1, 2}, []int{1, 2}, 1},
		{"all are kept", three(3, 1, 1), []api.Ballot{member(1, 0, 0, 2)}, []int{0, 0, 1}, []int{0, 1, 2}, 0},
	} {
		results, winner, e := song.Run(x.c, x.l)
		if e != api.OK || winner != x.winner || !slices.Equal(results[0].Scores, x.scores) || !slices.Equal(results[0].Kept, x.kept) {
			t.Error(x.about, results, winner, e)
		}
	}
}

// P4.1: Counts.
func TestCounts(t *testing.T) {
	for _, x := range []struct {
		about string
		l     []api.Ballot
		want  []bool
	}{
		{"the example", opened(), []bool{true, true, true, true, false, true, false, true, true, true}},
		{"nobody votes", nil, nil},
		{"a member, twice for the same song", []api.Ballot{member(2, 0, 0, 0), member(1, 0, 0, 0)}, []bool{false, true}},
		{"a member, for three songs", []api.Ballot{member(3, 0, 0, 0), member(1, 0, 0, 1), member(2, 0, 0, 2)}, []bool{false, true, false}},
		{"a member in two rounds", []api.Ballot{member(1, 0, 0, 0), member(2, 1, 0, 0)}, []bool{true, true}},
		{"two members", []api.Ballot{member(1, 0, 0, 0), member(2, 0, 1, 0)}, []bool{true, true}},
		{"a jury, twice for the same song", []api.Ballot{jury(2, 0, 0, 0, 1), jury(1, 0, 0, 0, 2)}, []bool{false, true}},
		{"a jury for two songs", []api.Ballot{jury(2, 0, 0, 0, 1), jury(1, 0, 0, 1, 2)}, []bool{true, true}},
		{"a jury in two rounds", []api.Ballot{jury(1, 0, 0, 0, 1), jury(2, 1, 0, 0, 2)}, []bool{true, true}},
		{"two juries", []api.Ballot{jury(1, 0, 0, 0, 1), jury(2, 0, 1, 0, 2)}, []bool{true, true}},
		{"a jury and a member of the same number", []api.Ballot{jury(1, 0, 0, 0, 1), member(2, 0, 0, 0)}, []bool{true, true}},
		{"a song that is not kept", []api.Ballot{member(1, 1, 0, 2), jury(2, 1, 0, 2, 1)}, []bool{false, false}},
		{"a song that is not kept does not use up a vote", []api.Ballot{member(1, 1, 0, 2), member(2, 1, 0, 1), member(3, 1, 0, 0)}, []bool{false, true, false}},
		{"a ballot that does not count changes what the next round counts", []api.Ballot{member(2, 0, 0, 2), member(1, 0, 0, 0), member(3, 1, 1, 2)}, []bool{false, true, false}},
		{"a ballot that counts changes what the next round counts", []api.Ballot{member(1, 0, 0, 2), member(2, 0, 0, 0), member(3, 1, 1, 2)}, []bool{true, false, true}},
	} {
		if counts, e := song.Counts(samba(), x.l); e != api.OK || !slices.Equal(counts, x.want) {
			t.Error(x.about, counts, e)
		}
	}
}

// P4.2: Stays.
func TestStays(t *testing.T) {
	five := api.Contest{Songs: 3, Members: 5, Rounds: []api.Round{{Keep: 2, Member: 1}, {Keep: 1, Member: 1}}}
	three := []api.Ballot{member(1, 0, 0, 2), member(2, 0, 1, 2), member(3, 0, 2, 1)}
	judged := api.Contest{Songs: 2, Juries: 2, Most: 5, Rounds: []api.Round{{Keep: 1, Jury: 1}}}
	for _, x := range []struct {
		about string
		c     api.Contest
		l     []api.Ballot
		round int
		want  []int
		e     api.Errno
	}{
		{"the first example", samba(), opened(), 1, []int{open, open, never}, api.OK},
		{"the second example", pair(), both(), 0, []int{sure, never}, api.OK},
		{"the third example", pair(), both()[:1], 0, []int{open, open}, api.OK},
		{"nobody has voted", samba(), nil, 0, []int{open, open, open}, api.OK},
		{"a round below 0", samba(), opened(), -1, nil, api.ErrRange},
		{"a round that is not", samba(), opened(), 2, nil, api.ErrRange},
		{"one song", api.Contest{Songs: 1, Members: 3, Rounds: []api.Round{{Keep: 1, Member: 1}}}, nil, 0, []int{sure}, api.OK},
		{"all songs are kept", changed(func(c *api.Contest) { c.Rounds[0].Keep = 3 }), nil, 0, []int{sure, sure, sure}, api.OK},
		{"nobody may vote", api.Contest{Songs: 3, Rounds: []api.Round{{Keep: 2}, {Keep: 1}}}, nil, 0, []int{sure, sure, never}, api.OK},
		{"nobody may vote in the last round", api.Contest{Songs: 3, Rounds: []api.Round{{Keep: 2}, {Keep: 1}}}, nil, 1, []int{sure, never, never}, api.OK},
		{"two votes cannot put two songs ahead of a third one", five, three, 0, []int{open, open, sure}, api.OK},
		{"three votes cannot, since each needs two", five, three[:2], 0, []int{open, open, sure}, api.OK},
		{"four votes can", five, three[:1], 0, []int{open, open, open}, api.OK},
		{"the other round", five, three, 1, []int{never, open, open}, api.OK},
		{"votes that weigh nothing", api.Contest{Songs: 2, Members: 9, Rounds: []api.Round{{Keep: 1}}}, nil, 0, []int{sure, never}, api.OK},
		{"points that weigh nothing decide a tie", api.Contest{Songs: 2, Juries: 1, Most: 1, Rounds: []api.Round{{Keep: 1}}}, nil, 0, []int{open, open}, api.OK},
		{"points that are all 0", api.Contest{Songs: 2, Juries: 1, Rounds: []api.Round{{Keep: 1, Jury: 1}}}, nil, 0, []int{sure, never}, api.OK},
		{"one jury cannot make up for the other one", judged, []api.Ballot{jury(1, 0, 0, 1, 5), jury(2, 0, 1, 1, 1), jury(3, 0, 0, 0, 0)}, 0, []int{never, sure}, api.OK},
		{"one jury can just make up for the other one", judged, []api.Ballot{jury(1, 0, 0, 1, 5), jury(2, 0, 1, 1, 0), jury(3, 0, 0, 0, 0)}, 0, []int{open, open}, api.OK},
		{"one jury can just not make up for the other one", judged, []api.Ballot{jury(1, 0, 0, 0, 5), jury(2, 0, 1, 0, 0), jury(3, 0, 0, 1, 0)}, 0, []int{sure, never}, api.OK},
		{"a jury that has given points twice", judged, []api.Ballot{jury(1, 0, 0, 0, 4), jury(2, 0, 0, 0, 0), jury(3, 0, 0, 1, 5), jury(4, 0, 1, 1, 5)}, 0, []int{never, sure}, api.OK},
	} {
		if verdicts, e := song.Stays(x.c, x.l, x.round); e != x.e || !slices.Equal(verdicts, x.want) {
			t.Error(x.about, verdicts, e)
		}
	}
}

// P4.2: Needs.
func TestNeeds(t *testing.T) {
	for _, x := range []struct {
		about       string
		c           api.Contest
		l           []api.Ballot
		round, song int
		want        int
		e           api.Errno
	}{
		{"the first example", samba(), opened(), 1, 0, 0, api.OK},
		{"the second example", pair(), both(), 0, 1, 0, api.ErrMissing},
		{"the third example", pair(), both()[:1], 0, 1, 2, api.OK},
		{"a round below 0", samba(), opened(), -1, 0, 0, api.ErrRange},
		{"a round that is not", samba(), opened(), 2, 0, 0, api.ErrRange},
		{"a round before the song", samba(), opened(), 2, 3, 0, api.ErrRange},
		{"a song below 0", samba(), opened(), 1, -1, 0, api.ErrMissing},
		{"a song that is not", samba(), opened(), 0, 3, 0, api.ErrMissing},
		{"a song that is not one of the round", samba(), opened(), 1, 2, 0, api.ErrMissing},
		{"a song that is kept anyway", pair(), both(), 0, 0, 0, api.OK},
		{"a vote that decides no tie", pair(), nil, 0, 1, 1, api.OK},
		{"the last vote of all", pair(), []api.Ballot{member(1, 0, 0, 1), member(2, 0, 1, 0)}, 0, 1, 1, api.OK},
		{"a tie is enough for a lesser number", pair(), []api.Ballot{member(1, 0, 0, 1)}, 0, 0, 1, api.OK},
		{"votes that weigh nothing", api.Contest{Songs: 2, Members: 9, Rounds: []api.Round{{Keep: 1}}}, nil, 0, 1, 0, api.ErrMissing},
		{"juries do what they can", changed(func(c *api.Contest) { c.Rounds[0].Keep = 1 }), []api.Ballot{jury(1, 0, 0, 0, 10), jury(2, 0, 1, 0, 10), jury(3, 0, 0, 1, 5)}, 0, 1, 3, api.OK},
		{"juries do what they can, which is not enough", changed(func(c *api.Contest) { c.Rounds[0].Keep = 1 }), []api.Ballot{jury(1, 0, 0, 0, 10), jury(2, 0, 1, 0, 10), jury(3, 0, 0, 1, 4)}, 0, 1, 0, api.ErrMissing},
		{"juries could do it alone", changed(func(c *api.Contest) { c.Rounds[0].Keep = 1 }), []api.Ballot{jury(1, 0, 0, 0, 10), jury(2, 0, 1, 0, 9), jury(3, 0, 0, 1, 10)}, 0, 1, 0, api.OK},
		{"a lot of members", api.Contest{Songs: 2, Juries: 1, Members: 1000, Most: 100, Rounds: []api.Round{{Keep: 1, Jury: 10, Member: 1}}}, []api.Ballot{jury(1, 0, 0, 0, 100), jury(2, 0, 0, 1, 1)}, 0, 1, 991, api.OK},
		{"all of them", api.Contest{Songs: 2, Juries: 1, Members: 1000, Most: 100, Rounds: []api.Round{{Keep: 1, Jury: 10, Member: 1}}}, []api.Ballot{jury(1, 0, 0, 1, 100), jury(2, 0, 0, 0, 0)}, 0, 0, 0, api.ErrMissing},
		{"all of them are enough", api.Contest{Songs: 2, Juries: 1, Members: 1000, Most: 100, Rounds: []api.Round{{Keep: 1, Jury: 10, Member: 1}}}, []api.Ballot{jury(1, 0, 0, 1, 99), jury(2, 0, 0, 0, 0)}, 0, 0, 991, api.OK},
	} {
		if votes, e := song.Needs(x.c, x.l, x.round, x.song); votes != x.want || e != x.e {
			t.Error(x.about, votes, e)
		}
	}
}

// ring are the lists of the chapter's example.
func ring() [][]int { return [][]int{{0, 1, 2}, {1, 0, 2}, {1, 2, 0}, {2, 0, 1}, {2, 0, 1}} }

// P4.3: the errors of preferences.
func TestPrefs(t *testing.T) {
	for _, x := range []struct {
		about string
		songs int
		prefs [][]int
		want  api.Errno
	}{
		{"the example", 3, ring(), api.OK},
		{"no lists", 3, nil, api.OK},
		{"no lists, not nil", 3, [][]int{}, api.OK},
		{"empty lists", 3, [][]int{nil, {}, {1}}, api.OK},
		{"no songs", 0, nil, api.ErrRange},
		{"songs below 0", -1, nil, api.ErrRange},
		{"one song", 1, [][]int{{0}}, api.OK},
		{"as many songs as may be", 8, [][]int{{7, 6, 5, 4, 3, 2, 1, 0}}, api.OK},
		{"too many songs", 9, nil, api.ErrRange},
		{"as many lists as may be", 3, make([][]int, 200), api.OK},
		{"too many lists", 3, make([][]int, 201), api.ErrFull},
		{"songs before too many lists", 9, make([][]int, 201), api.ErrRange},
		{"too many lists before what they are", 3, slices.Repeat([][]int{{3}}, 201), api.ErrFull},
		{"a song below 0", 3, [][]int{{-1}}, api.ErrMissing},
		{"a song that is not", 3, [][]int{{0, 1, 3}}, api.ErrMissing},
		{"a song that is not, in the last list", 3, append(ring(), []int{3}), api.ErrMissing},
		{"a song twice", 3, [][]int{{1, 1}}, api.ErrExists},
		{"a song twice, with others between", 3, [][]int{{0, 1, 2, 0}}, api.ErrExists},
		{"a song in two lists", 3, [][]int{{1}, {1}}, api.OK},
		{"a song twice before one that is not", 3, [][]int{{1, 1, 3}}, api.ErrExists},
		{"a song that is not before one twice", 3, [][]int{{3, 1, 1}}, api.ErrMissing},
		{"a song that is not, twice", 3, [][]int{{3, 3}}, api.ErrMissing},
		{"one list before the next one", 3, [][]int{{1, 1}, {3}}, api.ErrExists},
		{"one list before the next one, the other way", 3, [][]int{{3}, {1, 1}}, api.ErrMissing},
		{"a list that is far too long", 8, [][]int{make([]int, 1000000)}, api.ErrExists},
	} {
		out, winner, e := song.Runoff(x.songs, x.prefs)
		over, best, e2 := song.Duels(x.songs, x.prefs)
		if e != x.want || e2 != x.want {
			t.Error(x.about, e, e2)
		}
		if x.want != api.OK && (len(out)+winner > 0 || len(over) > 0 || best != 0) {
			t.Error(x.about, out, winner, over, best)
		}
	}
}

// P4.3: Runoff.
func TestRunoff(t *testing.T) {
	for _, x := range []struct {
		about  string
		songs  int
		prefs  [][]int
		out    []int
		winner int
	}{
		{"the example", 3, ring(), []int{0, 2}, 1},
		{"one song", 1, [][]int{{0}, nil}, nil, 0},
		{"no lists", 4, nil, []int{3, 2, 1}, 0},
		{"a tie of two", 2, [][]int{{0}, {1}}, []int{1}, 0},
		{"fewest lists", 3, [][]int{{1}, {1}, {2}, {0}, {0}}, []int{2, 1}, 0},
		{"a list is for the next song then", 3, [][]int{{1}, {1}, {2, 1}, {0}, {0}}, []int{2, 0}, 1},
		{"a list is for the song after the next one", 4, [][]int{{3, 2, 0}, {2}, {0}, {0}, {1}, {1}, {1}}, []int{3, 2, 1}, 0},
		{"a list is for none any more", 3, [][]int{{2}, {1}, {1}, {0}, {0}}, []int{2, 1}, 0},
		{"empty lists", 3, [][]int{nil, {}, {2}, nil}, []int{1, 0}, 2},
		{"the first song of a list only", 3, [][]int{{0, 1, 2}, {0, 2}, {2, 1}}, []int{1, 2}, 0},
	} {
		if out, winner, e := song.Runoff(x.songs, x.prefs); e != api.OK || !slices.Equal(out, x.out) || winner != x.winner {
			t.Error(x.about, out, winner, e)
		}
	}
}

// P4.3: Duels.
func TestDuels(t *testing.T) {
	for _, x := range []struct {
		about string
		songs int
		prefs [][]int
		over  [][]int
		best  int
	}{
		{"the example", 3, ring(), [][]int{{0, 3, 2}, {2, 0, 3}, {3, 2, 0}}, -1},
		{"one song", 1, [][]int{{0}}, [][]int{{0}}, 0},
		{"one song in no list", 1, nil, [][]int{{0}}, 0},
		{"no lists", 2, nil, [][]int{{0, 0}, {0, 0}}, -1},
		{"a song that is not in a list", 2, [][]int{{1}}, [][]int{{0, 0}, {1, 0}}, 1},
		{"as many lists", 2, [][]int{{1, 0}, {0}}, [][]int{{0, 1}, {1, 0}}, -1},
		{"over one, as many as the other one", 3, [][]int{{0, 1, 2}, {1, 0, 2}}, [][]int{{0, 1, 2}, {1, 0, 2}, {0, 0, 0}}, -1},
		{"the last song", 3, [][]int{{2, 0, 1}, {1, 2}, {2}}, [][]int{{0, 1, 0}, {1, 0, 1}, {3, 2, 0}}, 2},
	} {
		over, best, e := song.Duels(x.songs, x.prefs)
		if e != api.OK || best != x.best || !slices.EqualFunc(over, x.over, slices.Equal[[]int]) {
			t.Error(x.about, over, best, e)
		}
	}
}
