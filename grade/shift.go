package grade

import (
	"slices"

	"vitola/api"
)

// Major returns the major number of an order.
func Major(order []int) (int, api.Errno) {
	if e := Check(order); e != api.OK {
		return 0, e
	}
	major := 0
	for next := 1; next < len(order); next++ {
		if order[next-1] > order[next] {
			major += next
		}
	}
	return major, api.OK
}

// divider divides what is written in front of a bale into parts, the last of which ends with the bale that is written last.
type divider struct{ bale, last int }

// ends returns whether a part ends behind a bale: whether it and the last one are both greater than the bale to come, or both smaller.
func (d divider) ends(other int) bool {
	return (other > d.bale) == (d.last > d.bale)
}

// rollParts moves the last bale of each part to the beginning of the part.
func rollParts(written []int, ends func(bale int) bool) {
	begin := 0
	for i, bale := range written {
		if ends(bale) {
			copy(written[begin+1:i+1], written[begin:i])
			written[begin] = bale
			begin = i + 1
		}
	}
}

// Shift returns the shifted order.
func Shift(order []int) ([]int, api.Errno) {
	if e := Check(order); e != api.OK {
		return nil, e
	}
	line := slices.Clone(order)
	for i := 1; i < len(line); i++ {
		rollParts(line[:i], divider{line[i], line[i-1]}.ends)
	}
	return line, api.OK
}

// Back returns the order whose shifted one is given.
func Back(order []int) ([]int, api.Errno) {
	if e := Check(order); e != api.OK {
		return nil, e
	}
	line := slices.Clone(order)
	for i := len(line) - 1; i > 0; i-- {
		// What ended a part begins it now. Turned round the parts end with it again, and it goes to where it came from.
		slices.Reverse(line[:i])
		rollParts(line[:i], divider{line[i], line[i-1]}.ends)
		slices.Reverse(line[:i])
	}
	return line, api.OK
}
