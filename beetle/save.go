package beetle

import "vitola/api"

// lost returns whether nothing saves a bale.
func (f field) lost(bale int) bool {
	return f.sick[bale] || !f.frozen[bale] && f.floor.beside(bale, f.sick) >= enough
}

// keeps returns whether a bale never gets beetles if more bales are frozen.
func (f field) keeps(bale int, more marks) bool {
	colder := f
	colder.frozen = f.frozen.and(more)
	return !colder.spread()[bale]
}

// safe returns whether bales are safe by themselves.
func (f field) safe(some marks) bool {
	outside := f.open().without(some)
	for _, bale := range some.list() {
		if f.sick[bale] {
			return false
		}
		if !f.frozen[bale] && f.floor.beside(bale, outside) >= enough {
			return false
		}
	}
	return true
}

// Proves checks bales that are safe by themselves.
func Proves(s Store, bales []int) api.Errno {
	f, e := checked(s)
	if e != api.OK {
		return e
	}
	var some marks
	before := -1
	for _, bale := range bales {
		if !f.floor.has(bale) {
			return api.ErrNone
		}
		if bale <= before {
			return api.ErrOrder
		}
		some[bale] = true
		before = bale
	}
	if !f.safe(some) {
		return api.ErrProof
	}
	return api.OK
}

// Keep returns the fewest bales to be frozen so that one gets no beetles.
func Keep(s Store, bale int) ([]int, api.Errno) {
	f, e := checked(s)
	if e != api.OK {
		return nil, e
	}
	if !f.floor.has(bale) {
		return nil, api.ErrNone
	}
	if f.lost(bale) {
		return nil, api.ErrLost
	}
	free := f.open().without(f.sick)
	free[bale] = false
	fits := func(more marks) bool { return f.keeps(bale, more) }
	// This ends: at most one neighbour is sick, and with all others frozen the bale gets no beetles.
	for many := 0; ; many++ {
		if more, ok := choose(free, marks{}, 0, many, fits); ok {
			return more.list(), api.OK
		}
	}
}
