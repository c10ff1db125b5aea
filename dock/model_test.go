package dock_test

import (
	"iter"
	"math"
	"slices"
	"testing"

	"vitola/api"
	"vitola/dock"
)

// The tests compare the package with a model that follows the words of the chapter and shares nothing with the package.

func list(numbers ...int) []int { return numbers }

// lists gives all lists of numbers from low to high with a length, in ascending order.
func lists(length, low, high int) iter.Seq[[]int] {
	return func(yield func([]int) bool) {
		at := slices.Repeat(list(low), length)
		for {
			if !yield(slices.Clone(at)) {
				return
			}
			i := length - 1
			for i >= 0 && at[i] == high {
				at[i] = low
				i--
			}
			if i < 0 {
				return
			}
			at[i]++
		}
	}
}

// samples gives some lists of numbers from 0 to high with a length, the same ones each time.
func samples(many, length, high int) iter.Seq[[]int] {
	return func(yield func([]int) bool) {
		seed := uint32(17)
		for range many {
			l := make([]int, length)
			for i := range l {
				seed = seed*1664525 + 1013904223
				l[i] = int(seed>>16) % (high + 1)
			}
			if !yield(l) {
				return
			}
		}
	}
}

// wishes gives all lists of wishes for up to 5 bays, and some for more.
func wishes() iter.Seq2[int, []int] {
	return func(yield func(int, []int) bool) {
		for bays := 1; bays <= dock.MaxBays; bays++ {
			for carts := 0; carts <= bays; carts++ {
				all := lists(carts, 0, bays-1)
				if bays > 5 {
					all = samples(300, carts, bays-1)
				}
				for l := range all {
					if !yield(bays, l) {
						return
					}
				}
			}
		}
	}
}

func modelCheck(bays int, wishes []int) api.Errno {
	switch {
	case bays < 1 || bays > 8:
		return api.ErrRange
	case len(wishes) > bays:
		return api.ErrMany
	}
	for _, w := range wishes {
		if w < 0 || w >= bays {
			return api.ErrNone
		}
	}
	return api.OK
}

func modelPark(bays int, wishes []int) []int {
	var parked []int
	for _, w := range wishes {
		for w < bays && slices.Contains(parked, w) {
			w++
		}
		if w == bays {
			w = -1
		}
		parked = append(parked, w)
	}
	return parked
}

func modelServes(bays int, wishes []int) bool {
	return !slices.Contains(modelPark(bays, wishes), -1)
}

// modelDifferent returns the error of a list of bays that should be different.
func modelDifferent(bays int, l []int) api.Errno {
	for i, b := range l {
		if b < 0 || b >= bays {
			return api.ErrNone
		}
		if slices.Contains(l[:i], b) {
			return api.ErrTwice
		}
	}
	return api.OK
}

// wishesFor returns how many carts wish for one of the last bays.
func wishesFor(bays int, wishes []int, last int) int {
	n := 0
	for _, w := range wishes {
		if w >= bays-last {
			n++
		}
	}
	return n
}

func power(base, exponent int) int {
	n := 1
	for range exponent {
		n *= base
	}
	return n
}

// wrongBays are numbers of bays that there cannot be.
var wrongBays = list(0, 9, -1, -8, 16, 63, 64, 65, math.MaxInt, math.MinInt)

// A call takes bays and a list; it has a number or a list as its result.
type call struct {
	name string
	run  func(bays int, l []int) (int, []int, api.Errno)
}

func number(f func(int, []int) (int, api.Errno)) func(int, []int) (int, []int, api.Errno) {
	return func(bays int, l []int) (int, []int, api.Errno) {
		n, e := f(bays, l)
		return n, nil, e
	}
}

func several(f func(int, []int) ([]int, api.Errno)) func(int, []int) (int, []int, api.Errno) {
	return func(bays int, l []int) (int, []int, api.Errno) {
		r, e := f(bays, l)
		return 0, r, e
	}
}

// callsOfWishes are all calls that have bays and wishes.
func callsOfWishes() []call {
	return []call{
		{"Check", number(func(bays int, l []int) (int, api.Errno) { return 0, dock.Check(bays, l) })},
		{"Park", several(dock.Park)},
		{"Serves", number(func(bays int, l []int) (int, api.Errno) {
			is, e := dock.Serves(bays, l)
			if is {
				return 1, e
			}
			return 0, e
		})},
		{"Against", number(dock.Against)},
		{"Proves 1", number(func(bays int, l []int) (int, api.Errno) { return 0, dock.Proves(bays, l, 1) })},
		{"Proves 0", number(func(bays int, l []int) (int, api.Errno) { return 0, dock.Proves(bays, l, 0) })},
		{"Way", number(dock.Way)},
		{"Lucky", number(dock.Lucky)},
		{"Number", number(dock.Number)},
	}
}

// callsOfLists are all calls that have a list.
func callsOfLists() []call {
	return append(callsOfWishes(),
		call{"Next 0", number(func(bays int, l []int) (int, api.Errno) { return dock.Next(bays, l, 0) })},
		call{"Turns", several(dock.Turns)},
		call{"Ways", number(dock.Ways)},
	)
}

func wantEmpty(t *testing.T, what string, n int, l []int) {
	t.Helper()
	if n != 0 || len(l) != 0 {
		t.Errorf("%s: %d %v with an error, want zero values", what, n, l)
	}
}
