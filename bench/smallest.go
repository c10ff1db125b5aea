package bench

import (
	"slices"

	"vitola/api"
)

// smallest returns the smallest count that is tried and fits.
func smallest(fits func(count int) bool) (int, api.Errno) {
	for tried := range MaxTried {
		count := tried + 1
		if fits(count) {
			return count, api.OK
		}
	}
	return 0, api.ErrLost
}

// goFirst returns whether some rollers, and nobody else, go before all others.
func goFirst(rollers, count int, home []int) bool {
	first := order(rollers, count)[:len(home):len(home)]
	slices.Sort(first)
	return slices.Equal(first, home)
}

// checkHome returns the error of a number of rollers and of some of them.
func checkHome(rollers int, home []int) api.Errno {
	if !isBench(rollers) {
		return api.ErrRange
	}
	for i, roller := range home {
		if !isRoller(rollers, roller) {
			return api.ErrNone
		}
		if i > 0 && roller <= home[i-1] {
			return api.ErrOrder
		}
	}
	return api.OK
}

// Smallest returns the smallest count with which a roller stays last.
func Smallest(rollers, roller int) (int, api.Errno) {
	if !isBench(rollers) {
		return 0, api.ErrRange
	}
	if !isRoller(rollers, roller) {
		return 0, api.ErrNone
	}
	return smallest(func(count int) bool { return last(rollers, count) == roller })
}

// First returns the smallest count with which some go first.
func First(rollers int, home []int) (int, api.Errno) {
	if e := checkHome(rollers, home); e != api.OK {
		return 0, e
	}
	return smallest(func(count int) bool { return goFirst(rollers, count, home) })
}
