package heap

import (
	"slices"

	"vitola/api"
)

// Plan returns the first plan.
func Plan(heaps []Heap, hands int) ([]int, api.Errno) {
	if e := checkHands(heaps, hands); e != api.OK {
		return nil, e
	}
	if !possible(heaps, hands) {
		return nil, api.ErrLost
	}
	plan := make([]int, len(heaps))
	fixed := slices.Clone(heaps)
	for i, h := range heaps {
		plan[i] = first(h.From, h.To, func(hour int) bool {
			fixed[i] = Heap{From: hour, To: hour}
			return possible(fixed, hands)
		})
		fixed[i] = Heap{From: plan[i], To: plan[i]}
	}
	return plan, api.OK
}

// Verify returns the error of a plan.
func Verify(heaps []Heap, hands int, plan []int) api.Errno {
	if e := checkHands(heaps, hands); e != api.OK {
		return e
	}
	if len(plan) != len(heaps) {
		return api.ErrShape
	}
	var busy [MaxHour + 1]int
	for i, hour := range plan {
		if !heaps[i].turnable(hour) {
			return api.ErrRange
		}
		if busy[hour] == hands {
			return api.ErrOver
		}
		busy[hour]++
	}
	return api.OK
}

// Fewest returns the smallest number of hands with which there is a plan.
func Fewest(heaps []Heap) (int, api.Errno) {
	if e := Check(heaps); e != api.OK {
		return 0, e
	}
	return first(0, MaxHeaps, func(hands int) bool { return possible(heaps, hands) }), api.OK
}

// Finish returns the smallest hour that can be the end of a plan.
func Finish(heaps []Heap, hands int) (int, api.Errno) {
	if e := checkHands(heaps, hands); e != api.OK {
		return 0, e
	}
	if !possible(heaps, hands) {
		return 0, api.ErrLost
	}
	latest := 0
	for _, h := range heaps {
		latest = max(latest, h.From)
	}
	return first(latest, MaxHour, func(end int) bool { return possible(endingBy(heaps, end), hands) }), api.OK
}

// endingBy returns the heaps without the hours behind an end, at or before which each of them begins.
func endingBy(heaps []Heap, end int) []Heap {
	shorter := slices.Clone(heaps)
	for i := range shorter {
		shorter[i].To = min(shorter[i].To, end)
	}
	return shorter
}

// Keep returns the first of the largest choices of heaps for which there is a plan.
func Keep(heaps []Heap, hands int) ([]int, api.Errno) {
	if e := checkHands(heaps, hands); e != api.OK {
		return nil, e
	}
	// Taking a heap whenever it can be taken spoils nothing: each choice with a plan grows to a largest one (P2.10).
	return choose(heaps, func(chosen, _ []Heap) bool { return possible(chosen, hands) }), api.OK
}
