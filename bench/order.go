package bench

import (
	"slices"

	"vitola/api"
)

// common returns the smallest number above 0 that two others divide.
func common(a, b int) int {
	multiple := a
	for multiple%b != 0 {
		multiple += a
	}
	return multiple
}

// orders returns how many orders are possible: two counts have the same one if each number of rollers who still sit divides their difference.
func orders(rollers int) int {
	multiple := 1
	for fewer := range rollers {
		multiple = common(multiple, fewer+1)
	}
	return multiple
}

// remainders returns the remainders of an order.
func remainders(order []int) []int {
	rests := make([]int, len(order))
	sitting := full(len(order))
	for place, roller := range order {
		seat := slices.Index(sitting, roller)
		rests[place] = (seat + 1) % len(sitting)
		sitting = sitting.leave(seat)
	}
	return rests
}

// countOf returns the smallest count that leaves all remainders, and whether there is one.
func countOf(rests []int) (int, bool) {
	count, step := 1, 1
	for place, rest := range rests {
		sitting := len(rests) - place
		next := common(step, sitting)
		// Counts that differ by next leave the same remainders up to here: what none of the first ones leaves, no greater one does.
		for count%sitting != rest {
			count += step
			if count > next {
				return 0, false
			}
		}
		step = next
	}
	return count, true
}

// Orders returns how many orders are possible.
func Orders(rollers int) (int, api.Errno) {
	if !isBench(rollers) {
		return 0, api.ErrRange
	}
	return orders(rollers), api.OK
}

// Check checks an order.
func Check(order []int) api.Errno {
	if !isBench(len(order)) {
		return api.ErrRange
	}
	for place, roller := range order {
		if !isRoller(len(order), roller) {
			return api.ErrNone
		}
		if slices.Contains(order[:place:place], roller) {
			return api.ErrTwice
		}
	}
	return api.OK
}

// Count returns the smallest count with an order.
func Count(order []int) (int, api.Errno) {
	if e := Check(order); e != api.OK {
		return 0, e
	}
	count, possible := countOf(remainders(order))
	if !possible {
		return 0, api.ErrLost
	}
	return count, api.OK
}

// Remainders returns the remainders of the count, place by place.
func Remainders(order []int) ([]int, api.Errno) {
	if e := Check(order); e != api.OK {
		return nil, e
	}
	return remainders(order), api.OK
}
