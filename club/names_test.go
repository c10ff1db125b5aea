package club_test

import (
	"math/rand"
	"slices"
	"testing"

	"vitola/club"
)

// renamed returns the counts if each sorter has another number.
func renamed(counts, names []int) []int {
	other := make([]int, len(counts))
	for sorter, count := range counts {
		other[names[sorter]] = count
	}
	return other
}

// renamedPlan returns the plan if each sorter has another number.
func renamedPlan(p club.Plan, names []int) club.Plan {
	other := club.Plan{Sorters: p.Sorters}
	for _, table := range p.Tables {
		other.Tables = append(other.Tables, [2]int{names[table[0]], names[table[1]]})
	}
	return other
}

// P12.13: if sorters get other numbers, Can, Why, Count, and with them Only, Proves and Check, stay.
func TestNamesOfCounts(t *testing.T) {
	random := rand.New(rand.NewSource(14))
	for counts := range someCounts(5) {
		other := renamed(counts, random.Perm(len(counts)))
		for _, name := range []string{"Check", "Can", "Why", "Proves", "Count", "Only"} {
			for k := range len(counts) + 2 {
				l, e := named(name).run(input{counts: counts, k: k})
				if m, f := named(name).run(input{counts: other, k: k}); !slices.Equal(l, m) || e != f {
					t.Fatalf("%s of %v, %d: %v %d; of %v: %v %d", name, counts, k, l, e, other, m, f)
				}
				if name != "Proves" {
					break
				}
			}
		}
	}
}

// P12.13: if sorters get other numbers, Counts and Others go with them; Trios stays.
func TestNamesOfPlans(t *testing.T) {
	random := rand.New(rand.NewSource(15))
	for p := range somePlans(5, 1000) {
		names := random.Perm(p.Sorters)
		counts, _ := club.Counts(p)
		others, _ := club.Others(p)
		trios, _ := club.Trios(p)
		x := input{plan: renamedPlan(p, names)}
		wantResult(t, "Counts", x, renamed(counts, names)...)
		wantResult(t, "Others", x, numbers(modelTidy(renamedPlan(others, names), true))...)
		wantResult(t, "Trios", x, trios)
	}
}

// F5: if the tables of a plan are told in another order, Cross of the same two tables stays; where just one of them has its sorters the other way round, turned and not turned change places.
func TestNamesOfTables(t *testing.T) {
	random := rand.New(rand.NewSource(16))
	for p := range somePlans(5, 30) {
		other := told(random, p)
		for _, x := range crossings(p) {
			y := input{plan: other, one: placeOf(other, p.Tables[x.one]), two: placeOf(other, p.Tables[x.two])}
			y.turned = x.turned
			if (other.Tables[y.one] != p.Tables[x.one]) != (other.Tables[y.two] != p.Tables[x.two]) {
				y.turned = !x.turned
			}
			l, e := named("Cross").run(x)
			if m, f := named("Cross").run(y); !slices.Equal(l, m) || e != f {
				t.Fatalf("Cross of %v: %v %d; of %v: %v %d", x, l, e, y, m, f)
			}
		}
	}
}

// placeOf returns the index of a table, whichever of its sorters is told first.
func placeOf(p club.Plan, table [2]int) int {
	return slices.IndexFunc(p.Tables, func(other [2]int) bool {
		return other == table || other == [2]int{table[1], table[0]}
	})
}
