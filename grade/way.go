package grade

import (
	"slices"

	"vitola/api"
)

// Differ returns all pairs in which two orders differ.
func Differ(a, b []int) ([][2]int, api.Errno) {
	if e := checkAll(a, b); e != api.OK {
		return nil, e
	}
	return pairs(len(a), buyersOf(a, b).differ), api.OK
}

// pairs returns, in ascending order, all pairs of so many bales for which the answer is yes.
func pairs(bales int, ask func(bale, other int) bool) [][2]int {
	var found [][2]int
	for bale := range bales {
		for other := range bales {
			if ask(bale, other) {
				found = append(found, [2]int{bale, other})
			}
		}
	}
	return found
}

func exchange(line []int, place int) {
	line[place], line[place+1] = line[place+1], line[place]
}

// astray returns the first place whose bale should come behind the next one, or the last place if there is none.
func astray(line []int, before func(bale, other int) bool) int {
	place := 0
	for place < len(line)-1 && before(line[place], line[place+1]) {
		place++
	}
	return place
}

// Way returns exchanges that lead from an order to another one.
func Way(a, b []int) ([]int, api.Errno) {
	if e := checkAll(a, b); e != api.OK {
		return nil, e
	}
	var way []int
	line := slices.Clone(a)
	before := ranksIn(b).before
	// The distance becomes smaller by one just with an exchange of two bales that come the other way in b. From wherever such exchanges lead others lead on, so the first place can always be taken.
	for place := astray(line, before); place < len(line)-1; place = astray(line, before) {
		exchange(line, place)
		way = append(way, place)
	}
	return way, api.OK
}

// Leads checks exchanges.
func Leads(a, b, places []int) api.Errno {
	if e := checkAll(a, b); e != api.OK {
		return e
	}
	for _, place := range places {
		if place < 0 || place > len(a)-2 {
			return api.ErrNone
		}
	}
	line := slices.Clone(a)
	for _, place := range places {
		exchange(line, place)
	}
	if !slices.Equal(line, b) {
		return api.ErrLost
	}
	return api.OK
}
