package shed

import (
	"slices"

	"bateria/api"
	"bateria/float"
)

// noFrame is what a match gives a design that has no frame.
const noFrame = -1

// Fits says of each frame, and each design, whether the frame fits it.
func Fits(frames []api.Float, designs [][]api.Load, route []api.Hurdle) ([][]bool, api.Errno) {
	if len(frames) > api.MaxFrames || len(designs) > api.MaxDesigns {
		return nil, api.ErrFull
	}
	if e := float.CheckRoute(route); e != api.OK {
		return nil, e
	}
	return compared(frames, designs, func(frame api.Float, design []api.Load) bool {
		frame.Loads = design
		return surelyPasses(frame, route)
	}), api.OK
}

// compared holds each thing of a list against each one of another list.
func compared[A, B any](list []A, others []B, agree func(A, B) bool) [][]bool {
	var table [][]bool
	for _, a := range list {
		var row []bool
		for _, b := range others {
			row = append(row, agree(a, b))
		}
		table = append(table, row)
	}
	return table
}

// surelyPasses says whether a float is valid, surely stands, and surely passes all hurdles.
func surelyPasses(f api.Float, route []api.Hurdle) bool {
	stands, e := float.Stands(f)
	if e != api.OK || stands != api.Sure {
		return false
	}
	stop, e := float.Stops(f, route)
	return e == api.OK && stop < 0
}

// Match gives as many designs as can be a frame that fits.
func Match(frames []api.Float, designs [][]api.Load, route []api.Hurdle) ([]int, api.Errno) {
	table, e := Fits(frames, designs, route)
	if e != api.OK {
		return nil, e
	}
	return bestMatch(table, len(designs)), api.OK
}

// bestMatch tries all matches in lexicographic order, so that the first one of those with as many frames is kept.
func bestMatch(table [][]bool, designs int) []int {
	var best []int
	most := -1
	match := make([]int, designs)
	var try func(design, given int)
	try = func(design, given int) {
		if design == designs {
			if given > most {
				best, most = slices.Clone(match), given
			}
			return
		}
		for frame, row := range table {
			if row[design] && !slices.Contains(match[:design], frame) {
				match[design] = frame
				try(design+1, given+1)
			}
		}
		match[design] = noFrame
		try(design+1, given)
	}
	try(0, 0)
	return best
}

// Jobs returns the jobs for all designs of a match: only one without a frame is welded.
func Jobs(match []int, weld, carve, paint int) ([]api.Job, api.Errno) {
	if len(match) > api.MaxDesigns {
		return nil, api.ErrFull
	}
	for _, frame := range match {
		if frame < noFrame {
			return nil, api.ErrRange
		}
	}
	if !within(weld, 0, api.MaxWork) || !within(carve, 0, api.MaxWork) || !within(paint, 0, api.MaxWork) {
		return nil, api.ErrRange
	}
	var jobs []api.Job
	for design, frame := range match {
		days := 0
		if frame == noFrame {
			days = weld
		}
		jobs = append(jobs, jobsOf(design, days, carve, paint)...)
	}
	if len(jobs) > api.MaxJobs {
		return nil, api.ErrOver
	}
	return jobs, api.OK
}

// jobsOf are the jobs of a design that take a day at least.
func jobsOf(design, weld, carve, paint int) []api.Job {
	all := []api.Job{
		{Float: design, Skill: api.SkillWeld, Days: weld},
		{Float: design, Skill: api.SkillCarve, Days: carve},
		{Float: design, Skill: api.SkillPaint, Days: paint},
	}
	return slices.DeleteFunc(all, func(j api.Job) bool { return j.Days == 0 })
}
