package song

import (
	"slices"

	"bateria/api"
)

// Runoff returns the songs that are left out one after the other, and the one that remains.
func Runoff(songs int, prefs [][]int) (out []int, winner int, e api.Errno) {
	if e := checkPrefs(songs, prefs); e != api.OK {
		return nil, 0, e
	}
	left := allSongs(songs)
	for len(left) > 1 {
		at := weakest(left, prefs)
		out = append(out, left[at])
		left = slices.Delete(left, at, at+1)
	}
	return out, left[0], api.OK
}

// Duels returns in how many lists each song is over each other one, and the song that wins all its duels, -1 if there is none.
func Duels(songs int, prefs [][]int) (over [][]int, best int, e api.Errno) {
	if e := checkPrefs(songs, prefs); e != api.OK {
		return nil, 0, e
	}
	best = -1
	for a := range songs {
		over = append(over, make([]int, songs))
		for b := range songs {
			over[a][b] = listsOver(prefs, a, b)
		}
	}
	for song := range songs {
		if winsAll(over, song) {
			best = song
		}
	}
	return over, best, api.OK
}

// weakest says where the song stands that is left out: the one for which the fewest lists are, or else the last one of them.
func weakest(left []int, prefs [][]int) int {
	var lists [api.MaxSongs]int
next:
	for _, list := range prefs {
		for _, song := range list {
			if slices.Contains(left, song) {
				lists[song]++
				continue next
			}
		}
	}
	at := 0
	for i, song := range left {
		if lists[song] <= lists[left[at]] {
			at = i
		}
	}
	return at
}

// listsOver is the number of lists in which a song stands and another one does not stand before it.
func listsOver(prefs [][]int, song, other int) int {
	lists := 0
	for _, list := range prefs {
		at, behind := slices.Index(list, song), slices.Index(list, other)
		if at >= 0 && (behind < 0 || at < behind) {
			lists++
		}
	}
	return lists
}

// winsAll says whether a song is over each other one in more lists than the other one is over it.
func winsAll(over [][]int, song int) bool {
	for other := range over {
		if other != song && over[song][other] <= over[other][song] {
			return false
		}
	}
	return true
}
