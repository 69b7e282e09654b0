package shed_test

import (
	"slices"
	"strings"
	"testing"

	"bateria/api"
	"bateria/shed"
)

// board has the shop S of the chapter's examples.
const board = "shop 4\nworker 1 0 0\nworker 0 1 1\nworker 0 0 1\njob 0 1 3\njob 0 3 2\njob 1 2 4\njob 1 3 2\nend\n"

// These are rows of a board with one job.
const shop1, worker, job1, end = "shop 1\n", "worker 1 0 0\n", "job 0 1 2\n", "end\n"

var texts = []struct {
	text string
	row  int
	want api.Errno
}{
	{board, 0, api.OK},
	{shop1 + worker + job1 + end, 0, api.OK},
	{"shop 0\n" + worker + end, 0, api.OK},
	{"shop 0\nworker 0 0 0\n" + end, 0, api.OK},
	{"shop 2\n" + worker + worker + job1 + job1 + end, 0, api.OK},
	// the row "shop"
	{"", 1, api.ErrForm},
	{"\n", 1, api.ErrForm},
	{"x", 1, api.ErrForm},
	{" ", 1, api.ErrForm},
	{"shop\n" + worker + job1 + end, 1, api.ErrForm},
	{"shop \n" + worker + job1 + end, 1, api.ErrForm},
	{"shop 1", 1, api.ErrForm},
	{"shop 1 \n" + worker + job1 + end, 1, api.ErrForm},
	{"shop 1 1\n" + worker + job1 + end, 1, api.ErrForm},
	{"shop  1\n" + worker + job1 + end, 1, api.ErrForm},
	{" shop 1\n" + worker + job1 + end, 1, api.ErrForm},
	{"\n" + shop1 + worker + job1 + end, 1, api.ErrForm},
	{"Shop 1\n" + worker + job1 + end, 1, api.ErrForm},
	{"shops 1\n" + worker + job1 + end, 1, api.ErrForm},
	{"1\n" + worker + job1 + end, 1, api.ErrForm},
	{worker + shop1 + job1 + end, 1, api.ErrForm},
	{job1 + shop1 + worker + end, 1, api.ErrForm},
	{end, 1, api.ErrForm},
	{end + shop1 + worker + job1 + end, 1, api.ErrForm},
	{shop1 + shop1 + worker + job1 + end, 2, api.ErrForm},
	{shop1 + worker + shop1 + job1 + end, 3, api.ErrForm},
	{shop1 + worker + job1 + shop1 + end, 4, api.ErrForm},
	// rows "worker"
	{shop1 + "worker\n" + job1 + end, 2, api.ErrForm},
	{shop1 + "worker 1 0\n" + job1 + end, 2, api.ErrForm},
	{shop1 + "worker 1 0 0 0\n" + job1 + end, 2, api.ErrForm},
	{shop1 + "worker 1 0 \n" + job1 + end, 2, api.ErrForm},
	{shop1 + "worker 1 0 0 \n" + job1 + end, 2, api.ErrForm},
	{shop1 + "worker 2 0 0\n" + job1 + end, 2, api.ErrForm},
	{shop1 + "worker 0 2 0\n" + job1 + end, 2, api.ErrForm},
	{shop1 + "worker 0 0 2\n" + job1 + end, 2, api.ErrForm},
	{shop1 + "worker 0 0 999\n" + job1 + end, 2, api.ErrForm},
	{shop1 + "worker 01 0 0\n" + job1 + end, 2, api.ErrForm},
	{shop1 + "worker 1 00 0\n" + job1 + end, 2, api.ErrForm},
	{shop1 + "worker 1 -0 0\n" + job1 + end, 2, api.ErrForm},
	{shop1 + "worker 1 x 0\n" + job1 + end, 2, api.ErrForm},
	{shop1 + "workers 1 0 0\n" + job1 + end, 2, api.ErrForm},
	{shop1 + "Worker 1 0 0\n" + job1 + end, 2, api.ErrForm},
	{shop1 + "worker\t1 0 0\n" + job1 + end, 2, api.ErrForm},
	{shop1 + "worker 1 0 0\r\n" + job1 + end, 2, api.ErrForm},
	{shop1 + worker + job1 + worker + end, 4, api.ErrForm},
	{"shop 2\n" + worker + job1 + worker + job1 + end, 4, api.ErrForm},
	{shop1 + job1 + worker + end, 3, api.ErrForm},
	// rows "job"
	{shop1 + worker + "job\n" + end, 3, api.ErrForm},
	{shop1 + worker + "job 0 1\n" + end, 3, api.ErrForm},
	{shop1 + worker + "job 0 1 \n" + end, 3, api.ErrForm},
	{shop1 + worker + "job 0 1 2 3\n" + end, 3, api.ErrForm},
	{shop1 + worker + "job 0 1 2 \n" + end, 3, api.ErrForm},
	{shop1 + worker + "job  0 1 2\n" + end, 3, api.ErrForm},
	{shop1 + worker + "job 00 1 2\n" + end, 3, api.ErrForm},
	{shop1 + worker + "job 0 01 2\n" + end, 3, api.ErrForm},
	{shop1 + worker + "job 0 1 +2\n" + end, 3, api.ErrForm},
	{shop1 + worker + "job -1 1 2\n" + end, 3, api.ErrForm},
	{shop1 + worker + "job 0 x 2\n" + end, 3, api.ErrForm},
	{shop1 + worker + "job 0 1 1000\n" + end, 3, api.ErrForm},
	{shop1 + worker + "job 1000 1 2\n" + end, 3, api.ErrForm},
	{shop1 + worker + "jobs 0 1 2\n" + end, 3, api.ErrForm},
	{"shop 2\n" + worker + job1 + "job 0 1 x\n" + end, 4, api.ErrForm},
	{"shop 2\n" + worker + job1 + "\n" + job1 + end, 4, api.ErrForm},
	// the row "end"
	{shop1, 2, api.ErrForm},
	{shop1 + worker, 3, api.ErrForm},
	{shop1 + worker + job1, 4, api.ErrForm},
	{shop1 + worker + job1[:len(job1)-1], 3, api.ErrForm},
	{shop1 + worker + job1 + "end", 4, api.ErrForm},
	{shop1 + worker + job1 + "end 1\n", 4, api.ErrForm},
	{shop1 + worker + job1 + "end \n", 4, api.ErrForm},
	{shop1 + worker + job1 + " end\n", 4, api.ErrForm},
	{shop1 + worker + job1 + "End\n", 4, api.ErrForm},
	{shop1 + worker + job1 + "ends\n", 4, api.ErrForm},
	{shop1 + worker + job1 + "\n" + end, 4, api.ErrForm},
	// behind the row "end"
	{shop1 + worker + job1 + end + "\n", 5, api.ErrForm},
	{shop1 + worker + job1 + end + "x", 5, api.ErrForm},
	{shop1 + worker + job1 + end + end, 5, api.ErrForm},
	{shop1 + worker + end + job1 + end, 4, api.ErrForm},
	{"shop 0\n" + end + worker + end, 3, api.ErrForm},
	// numbers
	{"shop 01\n" + worker + job1 + end, 1, api.ErrForm},
	{"shop 00\n" + worker + end, 1, api.ErrForm},
	{"shop +1\n" + worker + job1 + end, 1, api.ErrForm},
	{"shop -0\n" + worker + end, 1, api.ErrForm},
	{"shop x\n" + worker + job1 + end, 1, api.ErrForm},
	{"shop 1000\n" + worker + job1 + end, 1, api.ErrForm},
	{"shop 001\n" + worker + job1 + end, 1, api.ErrForm},
	{shop1 + worker + "job 0 1 999\n" + end, 0, api.ErrRange},
	{shop1 + worker + "job 999 1 2\n" + end, 0, api.ErrRange},
	// the number of jobs, behind all rows
	{shop1 + worker + end, 1, api.ErrForm},
	{"shop 0\n" + worker + job1 + end, 1, api.ErrForm},
	{"shop 2\n" + worker + job1 + end, 1, api.ErrForm},
	{"shop 999\n" + worker + job1 + end, 1, api.ErrForm},
	{shop1 + worker + job1 + job1 + end, 1, api.ErrForm},
	{"shop 2\n" + worker + job1 + "end 1\n", 4, api.ErrForm},
	{"shop 2\n" + worker + job1 + end + "x", 5, api.ErrForm},
	{"shop 2\n" + worker + job1, 4, api.ErrForm},
	{"shop 2\n" + worker + "job 7 4 31\n" + end, 1, api.ErrForm},
	{"shop 1\n" + end, 1, api.ErrForm},
	// then what Check says
	{"shop 0\n" + end, 0, api.ErrShort},
	{shop1 + job1 + end, 0, api.ErrShort},
	{shop1 + worker + "job 7 1 2\n" + end, 0, api.ErrRange},
	{shop1 + worker + "job 6 1 2\n" + end, 0, api.OK},
	{shop1 + worker + "job 0 0 2\n" + end, 0, api.ErrKind},
	{shop1 + worker + "job 0 4 2\n" + end, 0, api.ErrKind},
	{shop1 + worker + "job 0 2 2\n" + end, 0, api.OK},
	{shop1 + worker + "job 0 1 0\n" + end, 0, api.ErrRange},
	{shop1 + worker + "job 0 1 30\n" + end, 0, api.OK},
	{shop1 + worker + "job 0 1 31\n" + end, 0, api.ErrRange},
	{shop1 + strings.Repeat(worker, 4) + job1 + end, 0, api.OK},
	{shop1 + strings.Repeat(worker, 5) + job1 + end, 0, api.ErrFull},
	{"shop 7\n" + worker + strings.Repeat(job1, 7) + end, 0, api.OK},
	{"shop 8\n" + worker + strings.Repeat(job1, 8) + end, 0, api.ErrFull},
	{"shop 7\n" + worker + strings.Repeat(job1, 8) + end, 1, api.ErrForm},
	// how long a board may be
	{strings.Repeat("x", 1000), 1, api.ErrForm},
	{strings.Repeat("x", 1001), 0, api.ErrLong},
	{board + strings.Repeat("\n", 1000-len(board)), 10, api.ErrForm},
	{board + strings.Repeat("\n", 1001-len(board)), 0, api.ErrLong},
	{"shop 97\n" + worker + strings.Repeat(job1, 97) + end, 0, api.ErrFull},
	{shop1 + strings.Repeat(worker, 70) + "job 0 1 x\n", 72, api.ErrForm},
}

// P8.5: Write.
func TestWrite(t *testing.T) {
	most := crew(4, slices.Repeat([]api.Job{job(6, 3, 30)}, 7)...)
	for _, x := range []struct {
		s    api.Shop
		want string
		e    api.Errno
	}{
		{atelier(), board, api.OK},
		{crew(1), "shop 0\nworker 1 1 1\nend\n", api.OK},
		{api.Shop{Workers: []api.Worker{{}, {Carve: true}}}, "shop 0\nworker 0 0 0\nworker 0 1 0\nend\n", api.OK},
		{changed(func(s *api.Shop) { s.Workers = make([]api.Worker, 1) }), "shop 4\nworker 0 0 0\njob 0 1 3\njob 0 3 2\njob 1 2 4\njob 1 3 2\nend\n", api.OK},
		{most, "shop 7\n" + strings.Repeat("worker 1 1 1\n", 4) + strings.Repeat("job 6 3 30\n", 7) + "end\n", api.OK},
		{api.Shop{}, "", api.ErrShort},
		{crew(1, job(0, 4, 1)), "", api.ErrKind},
	} {
		if text, e := shed.Write(x.s); text != x.want || e != x.e {
			t.Errorf("%v %q %v", x.s, text, e)
		}
	}
}

// P8.5: Read.
func TestRead(t *testing.T) {
	if s, row, e := shed.Read(board); !sameShop(s, atelier()) || row != 0 || e != api.OK {
		t.Error(s, row, e)
	}
	for _, x := range texts {
		s, row, e := shed.Read(x.text)
		if row != x.row || e != x.want || e != api.OK && len(s.Workers)+len(s.Jobs) > 0 {
			t.Errorf("%q: %v %d %d", x.text, s, row, e)
		}
		if again, e2 := shed.Write(s); e == api.OK && (again != x.text || e2 != api.OK) {
			t.Errorf("%q: %q %d", x.text, again, e2)
		}
	}
}

// P8.12: a board is read from its shop, and what is read is written as it was.
func TestBoards(t *testing.T) {
	for _, s := range append(shops(12, 500, full), shops(13, 100, tiny)...) {
		text, e := shed.Write(s)
		if e != api.OK || len(text) > api.MaxBoard {
			t.Error(s, len(text), e)
		}
		read, row, e := shed.Read(text)
		if !sameShop(read, s) || row != 0 || e != api.OK {
			t.Error(s, read, row, e)
		}
		if again, e := shed.Write(read); again != text || e != api.OK {
			t.Errorf("%q: %q %d", text, again, e)
		}
	}
}
