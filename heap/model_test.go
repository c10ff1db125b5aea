package heap_test

import (
	"iter"
	"math"
	"slices"
	"testing"

	"vitola/api"
	"vitola/heap"
)

// The tests compare the package with a model that follows the words of the chapter and shares nothing with the package.

func list(numbers ...int) []int { return numbers }

// heaps returns heaps, two numbers each.
func heaps(numbers ...int) []heap.Heap {
	var l []heap.Heap
	for pair := range slices.Chunk(numbers, 2) {
		l = append(l, heap.Heap{From: pair[0], To: pair[1]})
	}
	return l
}

// yard are the heaps Y of the chapter's examples.
func yard() []heap.Heap { return heaps(0, 1, 0, 0, 1, 2, 1, 1, 4, 6) }

// lists gives all lists of elements with a length, in the order of the elements.
func lists[E any](length int, elements []E) iter.Seq[[]E] {
	return func(yield func([]E) bool) {
		at := make([]int, length)
		for {
			l := make([]E, length)
			for i, n := range at {
				l[i] = elements[n]
			}
			if !yield(l) {
				return
			}
			i := length - 1
			for i >= 0 && at[i] == len(elements)-1 {
				at[i] = 0
				i--
			}
			if i < 0 {
				return
			}
			at[i]++
		}
	}
}

// within returns all heaps with hours from low to high.
func within(low, high int) []heap.Heap {
	var l []heap.Heap
	for from := low; from <= high; from++ {
		for to := from; to <= high; to++ {
			l = append(l, heap.Heap{From: from, To: to})
		}
	}
	return l
}

// small gives all lists of few heaps with hours from 0 to 3.
func small() iter.Seq[[]heap.Heap] {
	return func(yield func([]heap.Heap) bool) {
		for length, high := range list(3, 3, 3, 3, 2) {
			for l := range lists(length, within(0, high)) {
				if !yield(l) {
					return
				}
			}
		}
	}
}

// samples gives some lists of up to 10 heaps with hours in a part of the day, the same ones each time.
func samples(many int) iter.Seq[[]heap.Heap] {
	return func(yield func([]heap.Heap) bool) {
		seed := uint32(29)
		next := func(below int) int {
			seed = seed*1664525 + 1013904223
			return int(seed>>16) % below
		}
		for range many {
			hours := 2 + next(9)
			begin := next(24 - hours + 1)
			l := make([]heap.Heap, next(11))
			for i := range l {
				a, b := begin+next(hours), begin+next(hours)
				l[i] = heap.Heap{From: min(a, b), To: max(a, b)}
			}
			if !yield(l) {
				return
			}
		}
	}
}

// inputs gives small lists and samples.
func inputs() iter.Seq[[]heap.Heap] {
	return func(yield func([]heap.Heap) bool) {
		for _, some := range []iter.Seq[[]heap.Heap]{small(), samples(400)} {
			for l := range some {
				if !yield(l) {
					return
				}
			}
		}
	}
}

// choices gives all choices of many of so many things, in ascending order.
func choices(things, many int) iter.Seq[[]int] {
	return func(yield func([]int) bool) {
		var choose func(begin []int, next int) bool
		choose = func(begin []int, next int) bool {
			if len(begin) == many {
				return yield(slices.Clone(begin))
			}
			for i := next; i < things; i++ {
				if !choose(append(slices.Clone(begin), i), i+1) {
					return false
				}
			}
			return true
		}
		choose(nil, 0)
	}
}

// pick returns some of the heaps.
func pick(l []heap.Heap, indices []int) []heap.Heap {
	var some []heap.Heap
	for _, i := range indices {
		some = append(some, l[i])
	}
	return some
}

func modelCheck(l []heap.Heap) api.Errno {
	if len(l) > 10 {
		return api.ErrMany
	}
	for _, h := range l {
		switch {
		case h.From < 0 || h.From > 23 || h.To < 0 || h.To > 23:
			return api.ErrRange
		case h.From > h.To:
			return api.ErrOrder
		}
	}
	return api.OK
}

func modelCrowd(l []heap.Heap, from, to int) int {
	n := 0
	for _, h := range l {
		if from <= h.From && h.From <= to && from <= h.To && h.To <= to {
			n++
		}
	}
	return n
}

func modelVerify(l []heap.Heap, hands int, plan []int) api.Errno {
	if len(plan) != len(l) {
		return api.ErrShape
	}
	for i, hour := range plan {
		before := 0
		for _, other := range plan[:i] {
			if other == hour {
				before++
			}
		}
		switch {
		case hour < l[i].From || hour > l[i].To:
			return api.ErrRange
		case before > hands-1:
			return api.ErrOver
		}
	}
	return api.OK
}

// modelPossible returns whether there is a plan: one heap after the other gets an hour, for which others move to theirs.
func modelPossible(l []heap.Heap, hands int) bool {
	turned := map[int][]int{}
	var place func(i int, tried map[int]bool) bool
	place = func(i int, tried map[int]bool) bool {
		for hour := l[i].From; hour <= l[i].To; hour++ {
			if tried[hour] {
				continue
			}
			tried[hour] = true
			if len(turned[hour]) < hands {
				turned[hour] = append(turned[hour], i)
				return true
			}
			for n := range hands {
				if place(turned[hour][n], tried) {
					turned[hour][n] = i
					return true
				}
			}
		}
		return false
	}
	for i := range l {
		if !place(i, map[int]bool{}) {
			return false
		}
	}
	return true
}

// modelPlan returns the first plan, or none, for heaps for which there is no plan.
func modelPlan(l []heap.Heap, hands int) ([]int, bool) {
	if !modelPossible(l, hands) {
		return nil, false
	}
	fixed := slices.Clone(l)
	var plan []int
	for i, h := range l {
		hour := h.From
		for fixed[i] = (heap.Heap{From: hour, To: hour}); !modelPossible(fixed, hands); fixed[i] = (heap.Heap{From: hour, To: hour}) {
			hour++
		}
		plan = append(plan, hour)
	}
	return plan, true
}

// modelFinish returns the smallest end of a plan, for heaps for which there is one.
func modelFinish(l []heap.Heap, hands int) int {
	for end := 0; ; end++ {
		shorter := slices.Clone(l)
		for i := range shorter {
			shorter[i].To = min(shorter[i].To, end)
		}
		if modelPossible(shorter, hands) {
			return end
		}
	}
}

func modelWhy(l []heap.Heap, hands int) (int, int, bool) {
	for from := range 24 {
		for to := from; to < 24; to++ {
			if modelCrowd(l, from, to) > (to-from+1)*hands {
				return from, to, true
			}
		}
	}
	return 0, 0, false
}

// largest returns the first of the largest choices of heaps that are good.
func largest(l []heap.Heap, good func([]heap.Heap) bool) []int {
	for many := len(l); ; many-- {
		for indices := range choices(len(l), many) {
			if good(pick(l, indices)) {
				return indices
			}
		}
	}
}

func modelMeets(l []heap.Heap, hours []int) bool {
	for _, h := range l {
		met := false
		for _, hour := range hours {
			met = met || h.From <= hour && hour <= h.To
		}
		if !met {
			return false
		}
	}
	return true
}

// modelHours returns the first of the shortest lists of hours. The heaps lie in few hours, so that it ends soon.
func modelHours(l []heap.Heap) []int {
	low, high := 23, 0
	for _, h := range l {
		low, high = min(low, h.From), max(high, h.To)
	}
	for many := 0; ; many++ {
		for hours := range choices(max(high-low+1, 0), many) {
			for i := range hours {
				hours[i] += low
			}
			if modelMeets(l, hours) {
				return hours
			}
		}
	}
}

// modelApart returns whether no two heaps have an hour in common.
func modelApart(l []heap.Heap) bool {
	for hour := range 24 {
		n := 0
		for _, h := range l {
			if h.From <= hour && hour <= h.To {
				n++
			}
		}
		if n > 1 {
			return false
		}
	}
	return true
}

// wrongHands are numbers of hands that there cannot be.
var wrongHands = list(0, 11, -1, -10, 24, 64, math.MaxInt, math.MinInt, 1<<32+1)

// A call takes heaps, a number and a list; it has numbers as its result.
type call struct {
	name string
	run  func(l []heap.Heap, n int, more []int) ([]int, api.Errno)
}

// noted returns the numbers of a result, none if all are 0.
func noted(e api.Errno, numbers ...int) ([]int, api.Errno) {
	if e != api.OK && !slices.ContainsFunc(numbers, func(n int) bool { return n != 0 }) {
		return nil, e
	}
	return numbers, e
}

// callsOfHands are all calls that have hands.
func callsOfHands() []call {
	return []call{
		{"Plan", func(l []heap.Heap, n int, _ []int) ([]int, api.Errno) { return heap.Plan(l, n) }},
		{"Verify", func(l []heap.Heap, n int, more []int) ([]int, api.Errno) { return nil, heap.Verify(l, n, more) }},
		{"Why", func(l []heap.Heap, n int, _ []int) ([]int, api.Errno) {
			from, to, e := heap.Why(l, n)
			return noted(e, from, to)
		}},
		{"Finish", func(l []heap.Heap, n int, _ []int) ([]int, api.Errno) {
			end, e := heap.Finish(l, n)
			return noted(e, end)
		}},
		{"Keep", func(l []heap.Heap, n int, _ []int) ([]int, api.Errno) { return heap.Keep(l, n) }},
	}
}

// calls are all calls.
func calls() []call {
	return append(callsOfHands(),
		call{"Check", func(l []heap.Heap, _ int, _ []int) ([]int, api.Errno) { return nil, heap.Check(l) }},
		call{"Crowd", func(l []heap.Heap, n int, _ []int) ([]int, api.Errno) {
			many, e := heap.Crowd(l, 0, n)
			return noted(e, many)
		}},
		call{"Crowd back", func(l []heap.Heap, n int, _ []int) ([]int, api.Errno) {
			many, e := heap.Crowd(l, n, 1)
			return noted(e, many)
		}},
		call{"Fewest", func(l []heap.Heap, _ int, _ []int) ([]int, api.Errno) {
			many, e := heap.Fewest(l)
			return noted(e, many)
		}},
		call{"Hours", func(l []heap.Heap, _ int, _ []int) ([]int, api.Errno) { return heap.Hours(l) }},
		call{"Meets", func(l []heap.Heap, _ int, more []int) ([]int, api.Errno) { return nil, heap.Meets(l, more) }},
		call{"Apart", func(l []heap.Heap, _ int, _ []int) ([]int, api.Errno) { return heap.Apart(l) }},
	)
}

func wantError(t *testing.T, what string, r []int, e, want api.Errno) {
	t.Helper()
	if len(r) != 0 || e != want {
		t.Errorf("%s: %v %d, want error %d only", what, r, e, want)
	}
}
