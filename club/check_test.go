package club_test

import (
	"slices"
	"testing"

	"vitola/api"
	"vitola/club"
)

func TestLimits(t *testing.T) {
	if club.MaxSorters != 8 || club.MaxTables != 28 {
		t.Error(club.MaxSorters, club.MaxTables)
	}
}

// modelCheck looks at the counts one by one.
func modelCheck(counts []int) api.Errno {
	if len(counts) == 0 {
		return api.ErrEmpty
	}
	if len(counts) > 8 {
		return api.ErrMany
	}
	if slices.Min(counts) < 0 || slices.Max(counts) > len(counts)-1 {
		return api.ErrRange
	}
	return api.OK
}

// checkCounts compares Check with the model; all calls of counts return the same error, whatever else is wrong.
func checkCounts(t *testing.T, counts []int) {
	t.Helper()
	want := modelCheck(counts)
	if e := club.Check(counts); e != want {
		t.Fatalf("Check of %v: %d, want %d", counts, e, want)
	}
	if want == api.OK {
		return
	}
	for _, c := range callsOfCounts() {
		for _, k := range list(-1, 0, 1, 2, len(counts), len(counts)+1) {
			wantError(t, c.name, input{counts: counts, k: k}, want)
		}
	}
}

// P12.1: all lists of numbers from -1 to 5, for up to 5 sorters.
func TestCheckAll(t *testing.T) {
	lists := [][]int{nil}
	for range 5 {
		var longer [][]int
		for _, counts := range lists {
			for count := -1; count <= 5; count++ {
				longer = append(longer, append(slices.Clone(counts), count))
			}
		}
		lists = longer
		for _, counts := range lists {
			checkCounts(t, counts)
		}
	}
}

// P12.1: each number at each place.
func TestCheckPlaces(t *testing.T) {
	for sorters := 1; sorters <= 8; sorters++ {
		for place := range sorters {
			for _, number := range append(extremes(), 0, sorters-1, sorters, sorters+1, 7, 8) {
				counts := slices.Repeat(list(sorters/2), sorters)
				counts[place] = number
				checkCounts(t, counts)
			}
		}
	}
}

// P12.1: none and too many, whatever they are.
func TestLength(t *testing.T) {
	checkCounts(t, nil)
	for _, many := range list(1, 2, 7, 8, 9, 10, 16, 100_000) {
		for _, count := range append(extremes(), 0, 1, 7, 8) {
			checkCounts(t, slices.Repeat(list(count), many))
		}
	}
}

// P12.2: numbers that are no numbers of counts.
func TestRangeOfProves(t *testing.T) {
	for counts := range someCounts(5) {
		for _, k := range append(extremes(), 0, len(counts)+1, len(counts)+2, 2*len(counts)+1) {
			wantError(t, "Proves", input{counts: counts, k: k}, api.ErrRange)
		}
	}
}

// modelCheckPlan compares each table with those before it.
func modelCheckPlan(p club.Plan) api.Errno {
	if p.Sorters < 1 || p.Sorters > 8 {
		return api.ErrRange
	}
	if len(p.Tables) > 28 {
		return api.ErrMany
	}
	for i, table := range p.Tables {
		if min(table[0], table[1]) < 0 || max(table[0], table[1]) > p.Sorters-1 {
			return api.ErrNone
		}
		if table[0] == table[1] {
			return api.ErrClash
		}
		if modelHas(club.Plan{Tables: p.Tables[:i]}, table[0], table[1]) {
			return api.ErrTwice
		}
	}
	return api.OK
}

// checkPlan compares CheckPlan with the model; all calls of a plan return the same error, whatever else is wrong.
func checkPlan(t *testing.T, p club.Plan) {
	t.Helper()
	want := modelCheckPlan(p)
	if e := club.CheckPlan(p); e != want {
		t.Fatalf("CheckPlan of %v: %d, want %d", p, e, want)
	}
	if want == api.OK {
		return
	}
	for _, c := range callsOfPlans() {
		wantError(t, c.name, input{plan: p}, want)
		wantError(t, c.name, input{plan: p, one: -1, two: 1}, want)
		wantError(t, c.name, input{plan: p, one: 1, two: len(p.Tables), turned: true}, want)
	}
}

// P12.5: numbers of sorters, whatever else is wrong.
func TestSorters(t *testing.T) {
	for _, sorters := range append(extremes(), 0, 1, 2, 3, 7, 8, 9, 10) {
		checkPlan(t, plan(sorters))
		checkPlan(t, plan(sorters, 0, 1))
		checkPlan(t, plan(sorters, 1, 1))
		checkPlan(t, plan(sorters, sorters-2, sorters-1))
		checkPlan(t, plan(sorters, sorters-1, sorters))
		checkPlan(t, club.Plan{Sorters: sorters, Tables: make([][2]int, 29)})
	}
}

// P12.5: too many tables, before anything that is wrong with one of them.
func TestManyTables(t *testing.T) {
	for sorters := 1; sorters <= 8; sorters++ {
		for _, many := range list(1, 2, 27, 28, 29, 30, 100_000) {
			for _, table := range [][2]int{{0, 0}, {0, 1}, {0, 8}, {-1, 0}} {
				checkPlan(t, club.Plan{Sorters: sorters, Tables: slices.Repeat([][2]int{table}, many)})
			}
		}
		all := everyTable[sorters]
		checkPlan(t, club.Plan{Sorters: sorters, Tables: all})
		for _, table := range all {
			checkPlan(t, club.Plan{Sorters: sorters, Tables: append(slices.Clone(all), table)})
			checkPlan(t, club.Plan{Sorters: sorters, Tables: append(slices.Clone(all), [2]int{table[1], table[0]})})
		}
	}
}

// P12.5: all plans of 3 sorters with up to 3 tables of the numbers from -1 to 3.
func TestCheckPlanAll(t *testing.T) {
	lists := [][]int{nil}
	for range 3 {
		var longer [][]int
		for _, l := range lists {
			for a := -1; a <= 3; a++ {
				for b := -1; b <= 3; b++ {
					longer = append(longer, append(slices.Clone(l), a, b))
				}
			}
		}
		lists = longer
		for _, l := range lists {
			checkPlan(t, plan(3, l...))
		}
	}
}

// P12.5: each number at each place, and of two wrong tables the first one.
func TestWrongTables(t *testing.T) {
	for p := range somePlans(3, 30) {
		for place := range p.Tables {
			for _, number := range append(extremes(), 0, 1, p.Sorters-1, p.Sorters, p.Sorters+1) {
				for side := range 2 {
					other := club.Plan{Sorters: p.Sorters, Tables: slices.Clone(p.Tables)}
					other.Tables[place][side] = number
					checkPlan(t, other)
					other.Tables[len(p.Tables)-1-place][1-side] = number
					checkPlan(t, other)
				}
			}
		}
	}
}

// P12.6: what is not the index of a table, before what is wrong with the other one.
func TestIndices(t *testing.T) {
	for p := range somePlans(3, 20) {
		long := len(p.Tables)
		for _, wrong := range append(extremes(), long, long+1) {
			for _, other := range append(extremes(), 0, long-1, long) {
				for _, turned := range []bool{false, true} {
					wantError(t, "Cross", input{plan: p, one: wrong, two: other, turned: turned}, api.ErrNone)
					wantError(t, "Cross", input{plan: p, one: other, two: wrong, turned: turned}, api.ErrNone)
				}
			}
		}
	}
}

// R3: a nil list and an empty one are equal.
func TestNil(t *testing.T) {
	for _, c := range callsOfCounts() {
		wantError(t, c.name, input{counts: list()}, api.ErrEmpty)
	}
	for _, c := range callsOfPlans() {
		for sorters := range 10 {
			l, e := c.run(input{plan: club.Plan{Sorters: sorters}})
			m, f := c.run(input{plan: club.Plan{Sorters: sorters, Tables: make([][2]int, 0, 3)}})
			if !slices.Equal(l, m) || e != f {
				t.Errorf("%s of %d sorters: %v %d, %v %d", c.name, sorters, l, e, m, f)
			}
		}
	}
}

// P1: each call ends with the extreme numbers, and has the same result the second time.
func TestSameAgain(t *testing.T) {
	numbers := append(extremes(), 0, 1, 2, 7, 8)
	for _, c := range calls() {
		for _, n := range numbers {
			for _, m := range numbers {
				checkAgain(t, c, input{counts: list(n, m), k: m, plan: plan(n, m, n), one: n, two: m})
				checkAgain(t, c, input{counts: list(1, n, 1), k: m, plan: plan(3, n, m), one: 0, two: m})
				checkAgain(t, c, input{counts: list(1, 1, 2, 2, m), k: n, plan: plan(8, 0, 1, 2, 3, n, m), one: n, two: m, turned: true})
			}
		}
		for p := range somePlans(4, 50) {
			checkAgain(t, c, input{counts: modelCounts(p), k: 1 + len(p.Tables)%p.Sorters, plan: p, one: 0, two: len(p.Tables) - 1})
		}
	}
}

func checkAgain(t *testing.T, c call, x input) {
	t.Helper()
	l, e := c.run(x)
	if other, f := c.run(x); !slices.Equal(l, other) || e != f {
		t.Fatalf("%s of %v: %v %d, then %v %d", c.name, x, l, e, other, f)
	}
	if e != api.OK && len(l) != 0 {
		t.Fatalf("%s of %v: %v with the error %d", c.name, x, l, e)
	}
}
