package club

import (
	"iter"
	"slices"

	"vitola/api"
)

// Make returns the first plan of counts.
func Make(counts []int) (Plan, api.Errno) {
	if e := Check(counts); e != api.OK {
		return Plan{}, e
	}
	for tables := range plans(counts) {
		return Plan{Sorters: len(counts), Tables: slices.Clone(tables)}, api.OK
	}
	return Plan{}, api.ErrLost
}

// Count returns how many plans of counts there are.
func Count(counts []int) (int, api.Errno) {
	if e := Check(counts); e != api.OK {
		return 0, e
	}
	many := 0
	for range plans(counts) {
		many++
	}
	return many, api.OK
}

// Only returns whether there is just one plan of counts.
func Only(counts []int) (bool, api.Errno) {
	if e := Check(counts); e != api.OK {
		return false, e
	}
	many := 0
	for range plans(counts) {
		many++
		if many > 1 {
			return false, api.OK
		}
	}
	if many == 0 {
		return false, api.ErrLost
	}
	return true, api.OK
}

// plans yields the tables of each tidy plan of counts, in ascending order. The list that it yields is used again for the next plan.
func plans(counts []int) iter.Seq[[][2]int] {
	return func(yield func([][2]int) bool) {
		s := search{left: slices.Clone(counts), found: yield}
		s.from(0, 1)
	}
}

// search chooses tables one after the other, and tells each choice that is a plan.
type search struct {
	left   []int
	tables [][2]int
	found  func(tables [][2]int) bool
}

// from goes through all choices among the tables from a b on; it returns false if no more plans are wanted.
func (s *search) from(a, b int) bool {
	if a == len(s.left) {
		return s.found(s.tables)
	}
	if b == len(s.left) {
		if s.left[a] > 0 {
			return true
		}
		return s.from(a+1, a+2)
	}
	if s.left[a] > 0 && s.left[b] > 0 {
		// The plans with a table come before those without it, as all have the same number of tables.
		if !s.with(a, b) {
			return false
		}
	}
	return s.from(a, b+1)
}

// with goes on with the table a b among those that are chosen.
func (s *search) with(a, b int) bool {
	s.left[a]--
	s.left[b]--
	s.tables = append(s.tables, [2]int{a, b})
	more := s.from(a, b+1)
	s.tables = s.tables[:len(s.tables)-1]
	s.left[a]++
	s.left[b]++
	return more
}
