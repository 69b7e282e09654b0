package shed

import "bateria/api"

// skills is a set of skills: a bit for each of them.
type skills uint8

const (
	welding skills = 1 << iota
	carving
	painting
	allSkills = welding | carving | painting
)

// bitOf is the bit of each skill.
var bitOf = [...]skills{api.SkillWeld: welding, api.SkillCarve: carving, api.SkillPaint: painting}

// hand is a worker who is asked for skills.
type hand api.Worker

func (h hand) welds() bool { return h.Weld }

func (h hand) carves() bool { return h.Carve }

func (h hand) paints() bool { return h.Paint }

// can is how a worker is asked for a valid skill.
func can(skill int) func(hand) bool {
	switch skill {
	case api.SkillWeld:
		return hand.welds
	case api.SkillCarve:
		return hand.carves
	}
	return hand.paints
}

// skillsOf are those of a worker.
func skillsOf(w api.Worker) skills {
	has := skills(0)
	for skill := api.SkillWeld; skill <= api.SkillPaint; skill++ {
		if isAble := can(skill); isAble(hand(w)) {
			has |= bitOf[skill]
		}
	}
	return has
}

// hasOne says whether a worker has at least one of some skills.
func hasOne(w api.Worker, some skills) bool { return skillsOf(w)&some != 0 }

// Check returns the first error of a shop.
func Check(s api.Shop) api.Errno {
	switch {
	case len(s.Workers) == 0:
		return api.ErrShort
	case len(s.Workers) > api.MaxWorkers || len(s.Jobs) > api.MaxJobs:
		return api.ErrFull
	}
	for _, j := range s.Jobs {
		if e := checkJob(j); e != api.OK {
			return e
		}
	}
	return api.OK
}

func checkJob(j api.Job) api.Errno {
	switch {
	case !within(j.Float, 0, api.MaxJobs-1):
		return api.ErrRange
	case !within(j.Skill, api.SkillWeld, api.SkillPaint):
		return api.ErrKind
	case !within(j.Days, 1, api.MaxWork):
		return api.ErrRange
	}
	return api.OK
}

// checkPlan returns the first error of a plan for a valid shop.
func checkPlan(s api.Shop, plan []api.Shift) api.Errno {
	if len(plan) != len(s.Jobs) {
		return api.ErrForm
	}
	for job := range plan {
		if e := checkShift(s, plan, job); e != api.OK {
			return e
		}
	}
	for job := range plan {
		for other := range job {
			if clash(s.Jobs, plan, job, other) {
				return api.ErrClash
			}
		}
	}
	return api.OK
}

func checkShift(s api.Shop, plan []api.Shift, job int) api.Errno {
	x := plan[job]
	switch {
	case !within(x.Worker, 0, len(s.Workers)-1):
		return api.ErrMissing
	case !hasOne(s.Workers[x.Worker], bitOf[s.Jobs[job].Skill]):
		return api.ErrKind
	case !within(x.Day, 0, api.MaxDay):
		return api.ErrRange
	}
	if before := jobBefore(s.Jobs, job); before != noJob && x.Day < end(s.Jobs, plan, before) {
		return api.ErrOrder
	}
	return api.OK
}

// clash says whether one worker does two jobs on one day.
func clash(jobs []api.Job, plan []api.Shift, a, b int) bool {
	return plan[a].Worker == plan[b].Worker && plan[a].Day < end(jobs, plan, b) && plan[b].Day < end(jobs, plan, a)
}

// end is the day on which a job has ended.
func end(jobs []api.Job, plan []api.Shift, job int) int { return plan[job].Day + jobs[job].Days }

const noJob = -1

// jobBefore is the last one of the jobs before a job that are for the same float.
func jobBefore(jobs []api.Job, job int) int {
	for before := job - 1; before >= 0; before-- {
		if jobs[before].Float == jobs[job].Float {
			return before
		}
	}
	return noJob
}

func within(n, least, most int) bool { return n >= least && n <= most }
