package blend

import (
	"slices"

	"vitola/api"
)

// lacking returns the leaves of a blend that another one does not have.
func lacking(blend, other []int) []int {
	return slices.DeleteFunc(kept(blend), func(leaf int) bool { return slices.Contains(other, leaf) })
}

// distance returns the distance of two blends of the same size.
func distance(a, b []int) int {
	return len(lacking(a, b))
}

// exchange returns a blend in which one leaf has come in instead of another one.
func exchange(blend []int, out, in int) []int {
	other := kept(blend)
	other[slices.Index(other, out)] = in
	slices.Sort(other)
	return other
}

// checkTwo returns the error of two blends that must have the same size.
func checkTwo(leaves int, a, b []int) api.Errno {
	if e := Check(leaves, a); e != api.OK {
		return e
	}
	if e := Check(leaves, b); e != api.OK {
		return e
	}
	if len(a) != len(b) {
		return api.ErrShape
	}
	return api.OK
}

// Away returns the distance of two blends.
func Away(leaves int, a, b []int) (int, api.Errno) {
	if e := checkTwo(leaves, a, b); e != api.OK {
		return 0, e
	}
	return distance(a, b), api.OK
}

// Way returns blends from one to another one.
func Way(leaves int, a, b []int) ([][]int, api.Errno) {
	if e := checkTwo(leaves, a, b); e != api.OK {
		return nil, e
	}
	way := [][]int{kept(a)}
	// A leaf that came in is one of b and stays: so leaves go out, and come in, in ascending order.
	in := lacking(b, a)
	for i, out := range lacking(a, b) {
		way = append(way, exchange(way[i], out, in[i]))
	}
	return way, api.OK
}
