package marks

import (
	"slices"

	"bateria/api"
)

// Move returns the leagues of the next season, after so many schools of each went down and up.
func Move(leagues [][]int, n int) ([][]int, api.Errno) {
	if e := checkLeagues(leagues, n); e != api.OK {
		return nil, e
	}
	var next [][]int
	for i := range leagues {
		next = append(next, nextLeague(leagues, i, n))
	}
	return next, api.OK
}

// nextLeague is a league of the next season: who comes down to it, who stays, who comes up to it.
func nextLeague(leagues [][]int, i, n int) []int {
	stay := leagues[i]
	var down, up []int
	if i > 0 {
		before := leagues[i-1]
		down = before[len(before)-n:]
		stay = stay[n:]
	}
	if i < len(leagues)-1 {
		up = leagues[i+1][:n]
		stay = stay[:len(stay)-n]
	}
	return slices.Concat(down, stay, up)
}

func checkLeagues(leagues [][]int, n int) api.Errno {
	switch {
	case len(leagues) > api.MaxLeagues:
		return api.ErrFull
	case !within(n, 0, api.MaxSchools):
		return api.ErrRange
	}
	before := map[int]bool{}
	for i, league := range leagues {
		if e := checkLeague(league, before); e != api.OK {
			return e
		}
		if len(league) < n*neighbours(i, len(leagues)) {
			return api.ErrShort
		}
	}
	return api.OK
}

// checkLeague returns the error of a league's schools behind others, which it joins.
func checkLeague(league []int, before map[int]bool) api.Errno {
	if len(league) > api.MaxSchools {
		return api.ErrFull
	}
	for _, school := range league {
		if before[school] {
			return api.ErrExists
		}
		before[school] = true
	}
	return api.OK
}

// neighbours is how many leagues are next to one of so many.
func neighbours(i, many int) int {
	count := 0
	if i > 0 {
		count++
	}
	if i < many-1 {
		count++
	}
	return count
}
