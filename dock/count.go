package dock

import (
	"math/bits"

	"vitola/api"
)

// tails has, for each set of taken bays, the number of lists of wishes of the carts still to come with which none of them goes away.
type tails [1 << MaxBays]int

// countTails counts them for so many carts. A cart that parks makes the set of taken bays a greater number, so the greatest sets come first.
func countTails(bays, carts int) tails {
	var t tails
	for taken := 1<<bays - 1; taken >= 0; taken-- {
		here := bits.OnesCount(uint(taken))
		if here == carts {
			t[taken] = 1
		}
		if here >= carts {
			continue
		}
		for wish := range bays {
			t[taken] += t.behind(drive(bays, set(taken), wish), set(taken))
		}
	}
	return t
}

// behind returns the number of lists of the carts that come after one with this fate.
func (t *tails) behind(f fate, taken set) int {
	switch f.(type) {
	case parks:
		return t[f.leaves(taken)]
	default:
		return 0
	}
}

func checkCarts(bays, carts int) api.Errno {
	if e := checkBays(bays); e != api.OK {
		return e
	}
	if carts < 0 || carts > bays {
		return api.ErrRange
	}
	return api.OK
}

// Count returns the number of lists of wishes that serve all.
func Count(bays, carts int) (int, api.Errno) {
	if e := checkCarts(bays, carts); e != api.OK {
		return 0, e
	}
	t := countTails(bays, carts)
	return t[0], api.OK
}

// At returns the list of wishes with a number.
func At(bays, carts, number int) ([]int, api.Errno) {
	if e := checkCarts(bays, carts); e != api.OK {
		return nil, e
	}
	t := countTails(bays, carts)
	if number < 0 || number >= t[0] {
		return nil, api.ErrRange
	}
	wishes := make([]int, carts)
	var taken set
	for cart := range wishes {
		wish, before := t.pick(bays, taken, number)
		wishes[cart] = wish
		number -= before
		taken = drive(bays, taken, wish).leaves(taken)
	}
	return wishes, api.OK
}

// pick returns the next wish of the list with a number among those that begin alike, and how many of them have a smaller wish there.
func (t *tails) pick(bays int, taken set, number int) (wish, before int) {
	for wish = range bays {
		many := t.behind(drive(bays, taken, wish), taken)
		if number < before+many {
			break
		}
		before += many
	}
	return wish, before
}

// Number returns the number of a list of wishes.
func Number(bays int, wishes []int) (int, api.Errno) {
	if e := Check(bays, wishes); e != api.OK {
		return 0, e
	}
	if !serves(bays, wishes) {
		return 0, api.ErrProof
	}
	t := countTails(bays, len(wishes))
	number := 0
	var taken set
	for _, wish := range wishes {
		for smaller := range wish {
			number += t.behind(drive(bays, taken, smaller), taken)
		}
		taken = drive(bays, taken, wish).leaves(taken)
	}
	return number, api.OK
}

// Ways returns the number of lists of wishes that lead to bays.
func Ways(bays int, parked []int) (int, api.Errno) {
	if e := checkBays(bays); e != api.OK {
		return 0, e
	}
	if len(parked) > bays {
		return 0, api.ErrMany
	}
	if _, e := different(bays, parked); e != api.OK {
		return 0, e
	}
	ways := 1
	var taken set
	for _, bay := range parked {
		ways *= 1 + rowBefore(taken, bay)
		taken = taken.with(bay)
	}
	return ways, api.OK
}

// rowBefore returns how many taken bays are directly before a bay, without a free one between.
func rowBefore(taken set, bay int) int {
	row := 0
	for before := bay - 1; before >= 0 && taken.has(before); before-- {
		row++
	}
	return row
}
