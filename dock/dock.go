// Package dock is layer 1: it tells carts where to unload along a row of bays. See shared/doc/01-dock.md.
package dock

import (
	"slices"

	"vitola/api"
)

// MaxBays is the greatest number of bays.
const MaxBays = 8

// checkBays returns the error of a number of bays.
func checkBays(bays int) api.Errno {
	if bays < 1 || bays > MaxBays {
		return api.ErrRange
	}
	return api.OK
}

func isBay(bays, number int) bool {
	return 0 <= number && number < bays
}

// Check returns the error of wishes.
func Check(bays int, wishes []int) api.Errno {
	if e := checkBays(bays); e != api.OK {
		return e
	}
	if len(wishes) > bays {
		return api.ErrMany
	}
	for _, wish := range wishes {
		if !isBay(bays, wish) {
			return api.ErrNone
		}
	}
	return api.OK
}

// different returns the set of some bays, none of which may occur twice.
func different(bays int, list []int) (set, api.Errno) {
	var found set
	for _, bay := range list {
		if !isBay(bays, bay) {
			return 0, api.ErrNone
		}
		if found.has(bay) {
			return 0, api.ErrTwice
		}
		found = found.with(bay)
	}
	return found, api.OK
}

// Next returns the first free bay from a wish on.
func Next(bays int, taken []int, wish int) (int, api.Errno) {
	if e := checkBays(bays); e != api.OK {
		return 0, e
	}
	full, e := different(bays, taken)
	if e != api.OK {
		return 0, e
	}
	if !isBay(bays, wish) {
		return 0, api.ErrNone
	}
	bay := bayOf(drive(bays, full, wish))
	if bay == away {
		return 0, api.ErrLost
	}
	return bay, api.OK
}

// Park returns the bay of each cart.
func Park(bays int, wishes []int) ([]int, api.Errno) {
	if e := Check(bays, wishes); e != api.OK {
		return nil, e
	}
	return park(bays, wishes), api.OK
}

// Serves returns whether wishes serve all.
func Serves(bays int, wishes []int) (bool, api.Errno) {
	if e := Check(bays, wishes); e != api.OK {
		return false, e
	}
	return serves(bays, wishes), api.OK
}

func serves(bays int, wishes []int) bool {
	return !slices.Contains(park(bays, wishes), away)
}

// overrun returns whether more carts wish for one of the last bays than there are such bays.
func overrun(bays int, wishes []int, last int) bool {
	carts := 0
	for _, wish := range wishes {
		if wish >= bays-last {
			carts++
		}
	}
	return carts > last
}

// Against returns a proof that wishes do not serve all.
func Against(bays int, wishes []int) (int, api.Errno) {
	if e := Check(bays, wishes); e != api.OK {
		return 0, e
	}
	for last := 1; last <= bays; last++ {
		if overrun(bays, wishes, last) {
			return last, api.OK
		}
	}
	return 0, api.ErrClash
}

// Proves checks such a proof.
func Proves(bays int, wishes []int, last int) api.Errno {
	if e := Check(bays, wishes); e != api.OK {
		return e
	}
	if last < 1 || last > bays {
		return api.ErrRange
	}
	if !overrun(bays, wishes, last) {
		return api.ErrProof
	}
	return api.OK
}

// Way returns the sum of all ways.
func Way(bays int, wishes []int) (int, api.Errno) {
	if e := Check(bays, wishes); e != api.OK {
		return 0, e
	}
	sum := 0
	for cart, bay := range park(bays, wishes) {
		if bay != away {
			sum += bay - wishes[cart]
		}
	}
	return sum, api.OK
}

// Lucky returns how many carts get the bay of their wish.
func Lucky(bays int, wishes []int) (int, api.Errno) {
	if e := Check(bays, wishes); e != api.OK {
		return 0, e
	}
	lucky := 0
	for cart, bay := range park(bays, wishes) {
		if bay == wishes[cart] {
			lucky++
		}
	}
	return lucky, api.OK
}

// Turns returns by which numbers places can be turned so that they serve all.
func Turns(bays int, places []int) ([]int, api.Errno) {
	if e := checkBays(bays); e != api.OK {
		return nil, e
	}
	if len(places) > bays {
		return nil, api.ErrMany
	}
	for _, place := range places {
		if place < 0 || place > bays {
			return nil, api.ErrNone
		}
	}
	var found []int
	for by := 0; by <= bays; by++ {
		wishes := turned(bays, places, by)
		if Check(bays, wishes) == api.OK && serves(bays, wishes) {
			found = append(found, by)
		}
	}
	return found, api.OK
}

// turned returns the places turned; the one with the number of the bays is no bay.
func turned(bays int, places []int, by int) []int {
	list := make([]int, len(places))
	for i, place := range places {
		list[i] = (place + by) % (bays + 1)
	}
	return list
}
