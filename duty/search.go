package duty

import (
	"iter"
	"slices"

	"vitola/api"
)

// mostTried is how many parts are tried at most to make a fraction.
const mostTried = 3

// Greedy returns the greedy parts.
func Greedy(f Fraction) ([]int, api.Errno) {
	if e := Check(f); e != api.OK {
		return nil, e
	}
	var parts []int
	for left := f; left.Above > 0; {
		part := (left.Below + left.Above - 1) / left.Above
		if part > MaxPart {
			return nil, api.ErrOver
		}
		parts = append(parts, part)
		left = left.without(part)
	}
	return parts, api.OK
}

// Two returns the first two parts that make a fraction.
func Two(f Fraction) ([]int, api.Errno) {
	if e := Check(f); e != api.OK {
		return nil, e
	}
	return first(f, 2)
}

// Fewest returns the fewest parts that make a fraction.
func Fewest(f Fraction) ([]int, api.Errno) {
	if e := Check(f); e != api.OK {
		return nil, e
	}
	many := 1
again:
	parts, e := first(f, many)
	if e == api.ErrLost && many < mostTried {
		// What was tried with fewer parts tells nothing of more of them, so the search begins again.
		many++
		goto again
	}
	return parts, e
}

// Ways returns how many lists of so many parts make a fraction.
func Ways(f Fraction, many int) (int, api.Errno) {
	if e := Check(f); e != api.OK {
		return 0, e
	}
	if many < 1 || many > mostTried {
		return 0, api.ErrRange
	}
	ways := 0
	for range makings(f, many) {
		ways++
	}
	return ways, api.OK
}

// first returns the first list of so many parts that make a fraction.
func first(f Fraction, many int) ([]int, api.Errno) {
	for parts := range makings(f, many) {
		return slices.Clone(parts), api.OK
	}
	return nil, api.ErrLost
}

// makings yields, in ascending order, all lists of so many parts that make a fraction. The list that it yields is used again for the next one.
func makings(f Fraction, many int) iter.Seq[[]int] {
	return func(yield func([]int) bool) {
		s := search{found: yield}
		s.from(2, f, many)
	}
}

// search chooses parts one after the other, and tells each choice that makes a fraction.
type search struct {
	parts []int
	found func(parts []int) bool
}

// from goes through all ways to make what is left of so many parts that are not smaller than the least one; it returns false if no more are wanted.
func (s *search) from(least int, left Fraction, many int) bool {
	if many == 1 {
		last := left.Below / left.Above
		if left.Below%left.Above != 0 || last < least || last > MaxPart {
			return true
		}
		return s.found(append(s.parts, last))
	}
	// The smallest part is less than all that is left, and more than an equal share of it.
	next := max(least, left.Below/left.Above+1)
	for next <= MaxPart && next*left.Above < many*left.Below {
		s.parts = append(s.parts, next)
		more := s.from(next+1, left.without(next), many-1)
		s.parts = s.parts[:len(s.parts)-1]
		if !more {
			return false
		}
		next++
	}
	return true
}
