package grade

import (
	"slices"

	"vitola/api"
)

// needs has, for each bale, the set of the bales that must come before it: bit k of a set is bale k.
type needs [MaxBales]uint

// needsOf returns the needs of so many bales; asked is whether a bale must come before another one.
func needsOf(bales int, ask func(bale, other int) bool) needs {
	var n needs
	for _, pair := range pairs(bales, ask) {
		n[pair[1]] |= 1 << pair[0]
	}
	return n
}

// ready returns whether a bale can come next behind a set of bales.
func (n needs) ready(gone uint, bale int) bool {
	return gone>>bale&1 == 0 && n[bale]&^gone == 0
}

// allow returns whether each bale of an order comes behind all that it needs.
func (n needs) allow(order []int) bool {
	var gone uint
	for _, bale := range order {
		if !n.ready(gone, bale) {
			return false
		}
		gone |= 1 << bale
	}
	return true
}

// count returns how many orders of so many bales are allowed.
func (n needs) count(bales int) int {
	var ways [1 << MaxBales]int // for each set of bales, in how many ways they can come first
	ways[0] = 1
	all := uint(1)<<bales - 1
	for gone := range all {
		for bale := range bales {
			if n.ready(gone, bale) {
				ways[gone|1<<bale] += ways[gone]
			}
		}
	}
	return ways[all]
}

// arrange returns an order that is allowed: next comes always the first one of the bales left that can. There must be such an order.
func (n needs) arrange(left []int) []int {
	var line []int
	var gone uint
	for len(left) > 0 {
		i := slices.IndexFunc(left, func(bale int) bool { return n.ready(gone, bale) })
		line = append(line, left[i])
		gone |= 1 << left[i]
		left = slices.Delete(left, i, i+1)
	}
	return line
}

// rising returns so many bales, the smallest one first.
func rising(bales int) []int {
	line := make([]int, bales)
	for bale := range line {
		line[bale] = bale
	}
	return line
}

// falling returns so many bales, the greatest one first.
func falling(bales int) []int {
	line := rising(bales)
	slices.Reverse(line)
	return line
}

// Between returns whether an order is between two others.
func Between(a, b, x []int) (bool, api.Errno) {
	if e := checkAll(a, b, x); e != api.OK {
		return false, e
	}
	return needsOf(len(a), buyersOf(a, b).agree).allow(x), api.OK
}

// Joint returns how many orders are between two others.
func Joint(a, b []int) (int, api.Errno) {
	if e := checkAll(a, b); e != api.OK {
		return 0, e
	}
	return needsOf(len(a), buyersOf(a, b).agree).count(len(a)), api.OK
}

// First returns the first order between two others.
func First(a, b []int) ([]int, api.Errno) {
	if e := checkAll(a, b); e != api.OK {
		return nil, e
	}
	return needsOf(len(a), buyersOf(a, b).agree).arrange(rising(len(a))), api.OK
}

// Join returns the least order that turns all that two others turn.
func Join(a, b []int) ([]int, api.Errno) {
	if e := checkAll(a, b); e != api.OK {
		return nil, e
	}
	// Of two orders, one of which turns all that the other one turns, that one is greater. So the least one is the first one.
	return needsOf(len(a), buyersOf(a, b).turn).arrange(rising(len(a))), api.OK
}

// Meet returns the greatest order that turns only what two others turn.
func Meet(a, b []int) ([]int, api.Errno) {
	if e := checkAll(a, b); e != api.OK {
		return nil, e
	}
	// As for Join, with the last order instead of the first one.
	return needsOf(len(a), buyersOf(a, b).leave).arrange(falling(len(a))), api.OK
}
