package club

import "vitola/api"

// seating is a plan that was checked: which two sorters sit at a table.
type seating struct {
	sorters  int
	together [MaxSorters][MaxSorters]bool
}

// seatingOf returns what a plan says, or the error of the plan.
func seatingOf(p Plan) (seating, api.Errno) {
	if p.Sorters < 1 || p.Sorters > MaxSorters {
		return seating{}, api.ErrRange
	}
	if len(p.Tables) > MaxTables {
		return seating{}, api.ErrMany
	}
	s := seating{sorters: p.Sorters}
	for _, table := range p.Tables {
		if e := s.add(table[0], table[1]); e != api.OK {
			return seating{}, e
		}
	}
	return s, api.OK
}

// add seats two sorters at a table, or returns the error of the table.
func (s *seating) add(a, b int) api.Errno {
	if !s.has(a) || !s.has(b) {
		return api.ErrNone
	}
	if a == b {
		return api.ErrClash
	}
	if s.together[a][b] {
		return api.ErrTwice
	}
	s.together[a][b], s.together[b][a] = true, true
	return api.OK
}

// has returns whether a number is a sorter.
func (s seating) has(number int) bool {
	return 0 <= number && number < s.sorters
}

// tables returns, in ascending order, all tables that are in the plan, or all that are not.
func (s seating) tables(in bool) [][2]int {
	var found [][2]int
	for a := range s.sorters {
		for b := a + 1; b < s.sorters; b++ {
			if s.together[a][b] == in {
				found = append(found, [2]int{a, b})
			}
		}
	}
	return found
}

// tidy is the question for the tidy plan of the same tables; its answer is a Plan.
func (s seating) tidy() any {
	return Plan{Sorters: s.sorters, Tables: s.tables(true)}
}

// others is the question for the tidy plan of all other tables; its answer is a Plan.
func (s seating) others() any {
	return Plan{Sorters: s.sorters, Tables: s.tables(false)}
}

// counts is the question for the number of tables of each sorter; its answer is an []int.
func (s seating) counts() any {
	counts := make([]int, s.sorters)
	for _, table := range s.tables(true) {
		counts[table[0]]++
		counts[table[1]]++
	}
	return counts
}

// trios is the question for the number of trios; its answer is an int.
func (s seating) trios() any {
	trios := 0
	for a := range s.sorters {
		for b := range a {
			for c := range b {
				if s.together[a][b] == s.together[a][c] && s.together[a][b] == s.together[b][c] {
					trios++
				}
			}
		}
	}
	return trios
}
