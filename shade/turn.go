package shade

import (
	"slices"

	"vitola/api"
)

// begins returns, number by number, how many turning orders of so many cigars begin with it.
func begins(cigars int) []int {
	row := []int{1}
	for len(row) < cigars {
		longer := make([]int, len(row)+1)
		for first := range longer {
			// Behind the first number the others, turned upside down, are an order that begins with one that was not smaller.
			longer[first] = total(row[:len(row)-first]...)
		}
		row = longer
	}
	return row
}

// count returns how many turning orders of so many cigars there are.
func count(cigars int) int {
	return total(begins(cigars)...)
}

// following returns how many turning orders of so many cigars begin with some numbers and the next one.
func following(cigars int, begun []int, next int) int {
	if slices.Contains(begun, next) || !turns(joined(begun, next)) {
		return 0
	}
	// From the next one on there is an order of its own, of all numbers that did not come before.
	left := cigars - len(begun)
	first := next - smaller(begun, next)
	if len(begun)%2 == 1 {
		// It becomes smaller at first: turned upside down, it becomes greater.
		first = left - 1 - first
	}
	return begins(left)[first]
}

// pick returns the next number of the turning order that has a number among those that begin alike, and how many of them have a smaller one there.
func pick(cigars int, begun []int, number int) (next, before int) {
	for next = range cigars {
		many := following(cigars, begun, next)
		if number < before+many {
			break
		}
		before += many
	}
	return next, before
}

// isOrder returns whether an order may have so many cigars.
func isOrder(cigars int) bool {
	return 1 <= cigars && cigars <= MaxOrder
}

// Turning returns whether an order is a turning order.
func Turning(order []int) (bool, api.Errno) {
	if e := checkLength(order, MaxOrder); e != api.OK {
		return false, e
	}
	for place, number := range order {
		if number < 0 || number >= len(order) {
			return false, api.ErrNone
		}
		if slices.Contains(order[:place], number) {
			return false, api.ErrTwice
		}
	}
	return turns(order), api.OK
}

// Count returns the number of turning orders.
func Count(cigars int) (int, api.Errno) {
	if !isOrder(cigars) {
		return 0, api.ErrRange
	}
	return count(cigars), api.OK
}

// Begin returns the number of those that begin with a number.
func Begin(cigars, first int) (int, api.Errno) {
	if !isOrder(cigars) || first < 0 || first >= cigars {
		return 0, api.ErrRange
	}
	return begins(cigars)[first], api.OK
}

// At returns the turning order with a number.
func At(cigars, number int) ([]int, api.Errno) {
	if !isOrder(cigars) || number < 0 || number >= count(cigars) {
		return nil, api.ErrRange
	}
	var order []int
	for range cigars {
		next, before := pick(cigars, order, number)
		order = joined(order, next)
		number -= before
	}
	return order, api.OK
}

// Number returns the number of a turning order.
func Number(order []int) (int, api.Errno) {
	turning, e := Turning(order)
	if e != api.OK {
		return 0, e
	}
	if !turning {
		return 0, api.ErrLost
	}
	number := 0
	for place, next := range order {
		for earlier := range next {
			number += following(len(order), order[:place], earlier)
		}
	}
	return number, api.OK
}
