package store

import (
	"slices"

	"vitola/api"
)

// Finer returns whether a division is finer than another one.
func Finer(a, b []int) (bool, api.Errno) {
	if e := checkPair(a, b); e != api.OK {
		return false, e
	}
	return slices.Equal(meet(a, b), a), api.OK
}

// Join returns the finest division that is coarser than two.
func Join(a, b []int) ([]int, api.Errno) {
	if e := checkPair(a, b); e != api.OK {
		return nil, e
	}
	labels := slices.Clone(a)
	for box, room := range b {
		relabel(labels, labels[box], labels[slices.Index(b, room)])
	}
	return divided(labels), api.OK
}

// Meet returns the coarsest division that is finer than two.
func Meet(a, b []int) ([]int, api.Errno) {
	if e := checkPair(a, b); e != api.OK {
		return nil, e
	}
	return meet(a, b), api.OK
}

// checkPair returns the error of two divisions.
func checkPair(a, b []int) api.Errno {
	if e := Check(a); e != api.OK {
		return e
	}
	if e := Check(b); e != api.OK {
		return e
	}
	if len(a) != len(b) {
		return api.ErrShape
	}
	return api.OK
}

// meet returns the division in which those boxes are together that are so in both.
func meet(a, b []int) []int {
	both := make([][2]int, len(a))
	for box := range both {
		both[box] = [2]int{a[box], b[box]}
	}
	return divided(both)
}

// relabel gives all boxes with a label another one.
func relabel(labels []int, from, to int) {
	for box, label := range labels {
		if label == from {
			labels[box] = to
		}
	}
}
