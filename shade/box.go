package shade

import (
	"slices"

	"vitola/api"
)

// steps returns the steps of a box.
func steps(shades []int, round bool) []int {
	all := make([]int, 0, len(shades))
	for one, other := range neighbours(shades, round) {
		all = append(all, max(one, other)-min(one, other))
	}
	return all
}

// step returns the greatest step of a box.
func step(shades []int, round bool) int {
	return greatest(steps(shades, round)...)
}

// sum returns the sum of all steps of a box.
func sum(shades []int, round bool) int {
	return total(steps(shades, round)...)
}

// reach returns the reach of a box.
func reach(cigars int, round bool) int {
	if round && cigars > 2 {
		return 2
	}
	return 1
}

// rises returns, index by index, the greatest step that the index proves.
func rises(shades []int, round bool) []int {
	sorted := slices.Sorted(slices.Values(shades))
	far := reach(len(sorted), round)
	all := make([]int, len(sorted)-far)
	for i := range all {
		all[i] = sorted[i+far] - sorted[i]
	}
	return all
}

// least returns the smallest step of all arrangements, which is the greatest one that is proved.
func least(shades []int, round bool) int {
	return greatest(rises(shades, round)...)
}

// wide returns the first arrangement with the greatest sum.
func wide(shades []int, round bool) []int {
	return cheapest(shades, func(arranged []int) int { return -sum(arranged, round) })
}

// Step returns the greatest step of a box.
func Step(shades []int, round bool) (int, api.Errno) {
	if e := Check(shades); e != api.OK {
		return 0, e
	}
	return step(shades, round), api.OK
}

// Least returns the smallest greatest step of all arrangements.
func Least(shades []int, round bool) (int, api.Errno) {
	if e := Check(shades); e != api.OK {
		return 0, e
	}
	return least(shades, round), api.OK
}

// Box returns the first arrangement with this step.
func Box(shades []int, round bool) ([]int, api.Errno) {
	if e := Check(shades); e != api.OK {
		return nil, e
	}
	return cheapest(shades, func(arranged []int) int { return step(arranged, round) }), api.OK
}

// Why returns the index that proves it.
func Why(shades []int, round bool) (int, api.Errno) {
	if e := Check(shades); e != api.OK {
		return 0, e
	}
	if len(shades) == 1 {
		return 0, api.ErrLost
	}
	return slices.Index(rises(shades, round), least(shades, round)), api.OK
}

// Proves checks an index that proves a step.
func Proves(shades []int, round bool, index, step int) api.Errno {
	if e := Check(shades); e != api.OK {
		return e
	}
	proved := rises(shades, round)
	if index < 0 || index >= len(proved) {
		return api.ErrRange
	}
	if proved[index] < step {
		return api.ErrProof
	}
	return api.OK
}

// Sum returns the sum of all steps of a box.
func Sum(shades []int, round bool) (int, api.Errno) {
	if e := Check(shades); e != api.OK {
		return 0, e
	}
	return sum(shades, round), api.OK
}

// Most returns the greatest sum of all arrangements.
func Most(shades []int, round bool) (int, api.Errno) {
	if e := Check(shades); e != api.OK {
		return 0, e
	}
	return sum(wide(shades, round), round), api.OK
}

// Wide returns the first arrangement with this sum.
func Wide(shades []int, round bool) ([]int, api.Errno) {
	if e := Check(shades); e != api.OK {
		return nil, e
	}
	return wide(shades, round), api.OK
}
