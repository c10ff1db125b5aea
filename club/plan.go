package club

import (
	"slices"

	"vitola/api"
)

// ask returns the answer of a question about a plan, or the error of the plan. Answers are of different types: who asks reads them as the type that belongs to the question, and where there is none, as a zero value.
func ask(p Plan, question func(seating) any) (any, api.Errno) {
	s, e := seatingOf(p)
	if e != api.OK {
		return nil, e
	}
	return question(s), api.OK
}

// Counts returns how many tables each sorter has.
func Counts(p Plan) ([]int, api.Errno) {
	answer, e := ask(p, seating.counts)
	counts, _ := answer.([]int)
	return counts, e
}

// Others returns the plan of all other tables.
func Others(p Plan) (Plan, api.Errno) {
	answer, e := ask(p, seating.others)
	others, _ := answer.(Plan)
	return others, e
}

// Trios returns how many trios a plan has.
func Trios(p Plan) (int, api.Errno) {
	answer, e := ask(p, seating.trios)
	trios, _ := answer.(int)
	return trios, e
}

// Cross exchanges two tables crosswise.
func Cross(p Plan, one, two int, turned bool) (Plan, api.Errno) {
	if e := CheckPlan(p); e != api.OK {
		return Plan{}, e
	}
	if one < 0 || one >= len(p.Tables) || two < 0 || two >= len(p.Tables) {
		return Plan{}, api.ErrNone
	}
	a, b := p.Tables[one][0], p.Tables[one][1]
	c, d := p.Tables[two][0], p.Tables[two][1]
	if a == c || a == d || b == c || b == d {
		return Plan{}, api.ErrShape
	}
	if turned {
		c, d = d, c
	}
	tables := slices.Clone(p.Tables)
	tables[one], tables[two] = [2]int{a, c}, [2]int{b, d}
	// The only error that these tables can have is the one asked for: that one which came about was there before.
	answer, e := ask(Plan{Sorters: p.Sorters, Tables: tables}, seating.tidy)
	tidy, _ := answer.(Plan)
	return tidy, e
}
