package grade

import (
	"slices"

	"vitola/api"
)

// Code returns the code of an order.
func Code(order []int) ([]int, api.Errno) {
	if e := Check(order); e != api.OK {
		return nil, e
	}
	code := make([]int, len(order))
	for place, bale := range order {
		for _, later := range order[place+1:] {
			if later < bale {
				code[place]++
			}
		}
	}
	return code, api.OK
}

// checkCode returns the error of a code.
func checkCode(code []int) api.Errno {
	if len(code) == 0 {
		return api.ErrEmpty
	}
	if len(code) > MaxBales {
		return api.ErrMany
	}
	for place, number := range code {
		if number < 0 || number >= len(code)-place {
			return api.ErrRange
		}
	}
	return api.OK
}

// From returns the order with a code.
func From(code []int) ([]int, api.Errno) {
	if e := checkCode(code); e != api.OK {
		return nil, e
	}
	order := make([]int, len(code))
	left := rising(len(code))
	for place, smaller := range code {
		order[place] = left[smaller]
		left = slices.Delete(left, smaller, smaller+1)
	}
	return order, api.OK
}

// manyPairs returns how many pairs there are of so many bales.
func manyPairs(bales int) int {
	return bales * (bales - 1) / 2
}

// tally has, for each number of turned pairs, how many orders turn so many.
type tally [MaxBales*(MaxBales-1)/2 + 1]int

// withBale returns the tally of orders with one bale more, the greatest one, which turns as many pairs as there are bales behind it, of so many others.
func (t tally) withBale(others int) tally {
	var more tally
	for turned := range manyPairs(others) + 1 {
		for behind := range others + 1 {
			more[turned+behind] += t[turned]
		}
	}
	return more
}

// Count returns the number of orders with so many turned pairs.
func Count(bales, turned int) (int, api.Errno) {
	if bales < 1 || bales > MaxBales || turned < 0 || turned > manyPairs(bales) {
		return 0, api.ErrRange
	}
	t := tally{1}
	for others := range bales {
		t = t.withBale(others)
	}
	return t[turned], api.OK
}
