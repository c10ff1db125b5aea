package club

import (
	"slices"

	"vitola/api"
)

// Can returns whether there is a plan of counts.
func Can(counts []int) (bool, api.Errno) {
	if e := Check(counts); e != api.OK {
		return false, e
	}
	return !odd(counts) && firstAgainst(counts) == 0, api.OK
}

// Why returns the smallest number that stands against counts.
func Why(counts []int) (int, api.Errno) {
	if e := Check(counts); e != api.OK {
		return 0, e
	}
	if odd(counts) {
		return 0, api.ErrSum
	}
	k := firstAgainst(counts)
	if k == 0 {
		return 0, api.ErrClash
	}
	return k, api.OK
}

// Proves checks such a number.
func Proves(counts []int, k int) api.Errno {
	if e := Check(counts); e != api.OK {
		return e
	}
	if k < 1 || k > len(counts) {
		return api.ErrRange
	}
	if !against(counts, k) {
		return api.ErrProof
	}
	return api.OK
}

// odd returns whether the sum of counts is odd, which it cannot be, as each table is counted twice.
func odd(counts []int) bool {
	sum := 0
	for _, count := range counts {
		sum += count
	}
	return sum%2 == 1
}

// firstAgainst returns the smallest number that stands against counts, or 0 if none does.
func firstAgainst(counts []int) int {
	for k := 1; k <= len(counts); k++ {
		if against(counts, k) {
			return k
		}
	}
	return 0
}

// against returns whether a number stands against counts.
func against(counts []int, k int) bool {
	falling := slices.Clone(counts)
	slices.Sort(falling)
	slices.Reverse(falling)
	needed, seats := 0, k*(k-1)
	for i, count := range falling {
		if i < k {
			needed += count
		} else {
			seats += min(count, k)
		}
	}
	return needed > seats
}
