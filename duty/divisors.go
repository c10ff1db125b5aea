package duty

import (
	"slices"

	"vitola/api"
)

// firstDivisors has, for each number from 2 to MaxHalf, its smallest divisor above 1.
var firstDivisors = [MaxHalf + 1]int{
	0, 0, 2, 3, 2, 5, 2, 7, 2, 3,
	2, 11, 2, 13, 2, 3, 2, 17, 2, 19,
	2, 3, 2, 23, 2, 5, 2, 3, 2, 29,
	2, 31, 2, 3, 2, 5, 2, 37, 2, 3,
	2,
}

// divisors returns, in ascending order, all divisors of the product of some numbers, each of them from 1 to MaxHalf.
func divisors(numbers ...int) []int {
	all := []int{1}
	for _, left := range numbers {
		for left > 1 {
			prime := firstDivisors[left]
			left /= prime
			for _, divisor := range slices.Clone(all) {
				all = append(all, prime*divisor)
			}
			slices.Sort(all)
			all = slices.Compact(all)
		}
	}
	return all
}

// commonDivisor returns the greatest number that divides two numbers, of which the second one is not 0.
func commonDivisor(a, b int) int {
	for a != 0 {
		a, b = b%a, a
	}
	return b
}

// Pairs returns all pairs that are a part together.
func Pairs(part int) ([][2]int, api.Errno) {
	if part < 1 || part > MaxHalf {
		return nil, api.ErrRange
	}
	var pairs [][2]int
	// By how much the two numbers of a pair are greater than the part, multiplied, is the part times itself.
	for _, more := range divisors(part, part) {
		if more < part {
			pairs = append(pairs, [2]int{part + more, part + part*part/more})
		}
	}
	return pairs, api.OK
}

// Sides returns the first sides of a fraction.
func Sides(f Fraction) (u, v int, e api.Errno) {
	if e := Check(f); e != api.OK {
		return 0, 0, e
	}
	f = f.reduced()
	all := divisors(f.Below)
	for i, small := range all {
		for _, great := range all[i+1:] {
			if commonDivisor(small, great) == 1 && (small+great)%f.Above == 0 {
				return small, great, api.OK
			}
		}
	}
	return 0, 0, api.ErrLost
}
