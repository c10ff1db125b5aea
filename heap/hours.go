package heap

import (
	"slices"

	"vitola/api"
)

// later returns the heaps that begin after an hour.
func later(heaps []Heap, hour int) []Heap {
	return slices.DeleteFunc(slices.Clone(heaps), func(h Heap) bool { return h.From <= hour })
}

// firstEnd returns the smallest To of heaps, or MaxHour if there are none.
func firstEnd(heaps []Heap) int {
	end := MaxHour
	for _, h := range heaps {
		end = min(end, h.To)
	}
	return end
}

// visits returns the fewest hours that have one for each heap. Each one is the last hour of a heap that begins after the one before, so no two of these heaps have an hour in common: it is also how many such heaps there are at most (P2.9).
func visits(heaps []Heap) int {
	many := 0
	for len(heaps) > 0 {
		heaps = later(heaps, firstEnd(heaps))
		many++
	}
	return many
}

// Hours returns the first of the shortest lists of hours at which each heap can be turned.
func Hours(heaps []Heap) ([]int, api.Errno) {
	if e := Check(heaps); e != api.OK {
		return nil, e
	}
	var hours []int
	left := heaps
	for many := visits(heaps); many > 0; many-- {
		// Until the first end all heaps that begin by an hour are met at it; behind the first end one would be missed.
		hour := first(0, firstEnd(left), func(hour int) bool { return visits(later(left, hour)) < many })
		hours = append(hours, hour)
		left = later(left, hour)
	}
	return hours, api.OK
}

// Meets returns the error of such hours.
func Meets(heaps []Heap, hours []int) api.Errno {
	if e := Check(heaps); e != api.OK {
		return e
	}
	before := -1
	for _, hour := range hours {
		if !isHour(hour) {
			return api.ErrRange
		}
		if hour <= before {
			return api.ErrOrder
		}
		before = hour
	}
	for _, h := range heaps {
		if !slices.ContainsFunc(hours, h.turnable) {
			return api.ErrProof
		}
	}
	return api.OK
}

// Apart returns the first of the largest choices of heaps no two of which have an hour in common.
func Apart(heaps []Heap) ([]int, api.Errno) {
	if e := Check(heaps); e != api.OK {
		return nil, e
	}
	many := visits(heaps)
	return choose(heaps, func(chosen, left []Heap) bool {
		return apart(chosen) && len(chosen)+visits(without(left, chosen)) == many
	}), api.OK
}

// apart returns whether no two heaps have an hour in common.
func apart(heaps []Heap) bool {
	return visits(heaps) == len(heaps)
}

// without returns the heaps that have no hour in common with any of some others.
func without(heaps, others []Heap) []Heap {
	return slices.DeleteFunc(slices.Clone(heaps), func(h Heap) bool { return slices.ContainsFunc(others, h.meets) })
}
