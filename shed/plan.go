package shed

import (
	"cmp"
	"iter"
	"slices"

	"bateria/api"
)

// shifts are those of all jobs. They are an array, so that a plan with one more job is a copy with a change.
type shifts [api.MaxJobs]api.Shift

// draft is a plan at work. Jobs are planned in the order of their days, and those of one day in that of their numbers; one that is not planned yet has the worker 0 and the earliest day that it may still have.
type draft struct {
	shifts
	planned [api.MaxJobs]bool
	many    int // how many jobs are planned
	last    int // the one that was planned last
	days    int // how many days it takes at least
}

// compare says which draft is better, when all jobs are planned. No plan that a draft becomes is better than the draft, since no day, and no worker, becomes less.
func compare(a, b draft) int {
	byDay := func(x, y api.Shift) int { return cmp.Compare(x.Day, y.Day) }
	byWorker := func(x, y api.Shift) int { return cmp.Compare(x.Worker, y.Worker) }
	return cmp.Or(
		cmp.Compare(a.days, b.days),
		slices.CompareFunc(a.shifts[:], b.shifts[:], byDay),
		slices.CompareFunc(a.shifts[:], b.shifts[:], byWorker),
	)
}

// planner has the jobs of a shop, and for each of them the workers who have its skill, and the job behind which it is done.
type planner struct {
	jobs  []api.Job
	able  [][]int
	after []int
}

func plannerOf(s api.Shop) planner {
	p := planner{jobs: s.Jobs}
	for job, j := range s.Jobs {
		p.able = append(p.able, workersWith(s, bitOf[j.Skill]))
		p.after = append(p.after, jobBefore(s.Jobs, job))
	}
	return p
}

// best is the best plan. It looks only at plans in which no job can be begun earlier by its worker, since such a change makes a plan better.
func (p planner) best() draft {
	best, found := draft{}, false
	var try func(d draft)
	try = func(d draft) {
		switch {
		case found && compare(d, best) >= 0: // it becomes no better plan
		case d.many == len(p.jobs):
			best, found = d, true
		default:
			for next := range p.steps(d) {
				try(next)
			}
		}
	}
	try(p.put(draft{last: noJob}))
	return best
}

// steps hands out all drafts with one more job that is planned.
func (p planner) steps(d draft) iter.Seq[draft] {
	return func(yield func(draft) bool) {
		for job := range p.jobs {
			if d.planned[job] || p.waits(d, job) {
				continue
			}
			for _, worker := range p.able[job] {
				day := max(p.ready(d, job), p.free(d, worker))
				if day < d.shifts[job].Day { // another order plans this
					continue
				}
				if !yield(p.with(d, job, api.Shift{Worker: worker, Day: day})) {
					return
				}
			}
		}
	}
}

// waits says whether the job behind which a job is done is not planned yet.
func (p planner) waits(d draft, job int) bool {
	before := p.after[job]
	return before != noJob && !d.planned[before]
}

// ready is the day on which the job behind which a job is done has ended.
func (p planner) ready(d draft, job int) int {
	if before := p.after[job]; before != noJob {
		return end(p.jobs, d.shifts[:], before)
	}
	return 0
}

// free is the day on which the last job of a worker has ended.
func (p planner) free(d draft, worker int) int {
	day := 0
	for job := range p.jobs {
		if d.planned[job] && d.shifts[job].Worker == worker {
			day = max(day, end(p.jobs, d.shifts[:], job))
		}
	}
	return day
}

// with is the draft in which a job more is planned.
func (p planner) with(d draft, job int, x api.Shift) draft {
	d.shifts[job] = x
	d.planned[job] = true
	d.many++
	d.last = job
	return p.put(d)
}

// put is the draft in which the jobs that are not planned yet are put on the earliest days that they may still have.
func (p planner) put(d draft) draft {
	for job := range p.jobs {
		if d.planned[job] {
			continue
		}
		d.shifts[job].Day = max(p.ready(d, job), d.turn(job))
	}
	d.days = lasts(p.jobs, d.shifts[:])
	return d
}

// turn is the first day that a job may have behind the one that was planned last.
func (d draft) turn(job int) int {
	switch {
	case d.last == noJob:
		return 0
	case job < d.last:
		return d.shifts[d.last].Day + 1
	}
	return d.shifts[d.last].Day
}
