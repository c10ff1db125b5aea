package blend

import (
	"iter"
	"slices"

	"vitola/api"
)

// door is where the blends of a round come through. All of them are written into one list.
type door struct {
	blend []int
	yield func(blend []int) bool
}

// turn writes the round of a size of so many leaves, or its opposite, into the first places of the list, one blend after the other, and returns whether more are wanted.
func (d door) turn(leaves, size int, opposite bool) bool {
	switch {
	case size == 0:
		return d.yield(d.blend)
	case size == leaves:
		return d.add(leaves, size, opposite)
	case opposite:
		return d.add(leaves, size, true) && d.turn(leaves-1, size, true)
	default:
		return d.turn(leaves-1, size, false) && d.add(leaves, size, false)
	}
}

// add does this for the blends that have the greatest one of the leaves.
func (d door) add(leaves, size int, opposite bool) bool {
	d.blend[size-1] = leaves - 1
	return d.turn(leaves-1, size-1, !opposite)
}

// round yields the blends of a round. Each one is written over the one before it, so whoever wants one for longer keeps a copy.
func round(leaves, size int) iter.Seq[[]int] {
	return func(yield func([]int) bool) {
		door{make([]int, size), yield}.turn(leaves, size, false)
	}
}

// many returns how many blends there are in a round.
func many(leaves, size int) int {
	number := 0
	for range round(leaves, size) {
		number++
	}
	return number
}

// place returns the number of a blend in its round.
func place(leaves int, blend []int) int {
	number := 0
	for other := range round(leaves, len(blend)) {
		if slices.Equal(other, blend) {
			break
		}
		number++
	}
	return number
}

// at returns the blend with a number in a round, in which there must be one.
func at(leaves, size, number int) []int {
	for blend := range round(leaves, size) {
		if number == 0 {
			return kept(blend)
		}
		number--
	}
	return nil
}

// Count returns how many blends of a size there are.
func Count(leaves, size int) (int, api.Errno) {
	if e := checkSize(leaves, size); e != api.OK {
		return 0, e
	}
	return many(leaves, size), api.OK
}

// Number returns the place of a blend in its round.
func Number(leaves int, blend []int) (int, api.Errno) {
	if e := Check(leaves, blend); e != api.OK {
		return 0, e
	}
	return place(leaves, blend), api.OK
}

// Nth returns the blend with a number in a round.
func Nth(leaves, size, number int) ([]int, api.Errno) {
	if e := checkSize(leaves, size); e != api.OK {
		return nil, e
	}
	if number < 0 || number >= many(leaves, size) {
		return nil, api.ErrNone
	}
	return at(leaves, size, number), api.OK
}

// Next returns the blend after another one in the round, and which leaf went out of that one, and which one came in.
func Next(leaves int, blend []int) (next []int, out, in int, e api.Errno) {
	if e := Check(leaves, blend); e != api.OK {
		return nil, 0, 0, e
	}
	size := len(blend)
	if size == 0 || size == leaves {
		return nil, 0, 0, api.ErrLost
	}
	next = at(leaves, size, (place(leaves, blend)+1)%many(leaves, size))
	return next, lacking(blend, next)[0], lacking(next, blend)[0], api.OK
}
