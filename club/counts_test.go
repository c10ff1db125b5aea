package club_test

import (
	"slices"
	"testing"

	"vitola/api"
	"vitola/club"
)

// P12.1, P12.2, P12.8: Can, Why and Proves, against the plans that there are and the numbers that stand against counts.
func TestCan(t *testing.T) {
	for counts := range someCounts(6) {
		x := input{counts: counts}
		smallest, sum := 0, 0
		for k := len(counts); k >= 1; k-- {
			x.k = k
			sum += counts[k-1]
			if modelAgainst(counts, k) {
				smallest = k
				wantResult(t, "Proves", x)
			} else {
				wantError(t, "Proves", x, api.ErrProof)
			}
		}
		// There is a plan just if the sum is even and no number stands against them.
		if plansOf(counts) > 0 != (sum%2 == 0 && smallest == 0) {
			t.Fatalf("%v: %d plans, sum %d, %d stands against them", counts, plansOf(counts), sum, smallest)
		}
		if plansOf(counts) > 0 {
			wantResult(t, "Can", x, 1)
			wantError(t, "Why", x, api.ErrClash)
			continue
		}
		wantResult(t, "Can", x, 0)
		if sum%2 == 1 {
			wantError(t, "Why", x, api.ErrSum)
		} else {
			wantResult(t, "Why", x, smallest)
		}
	}
}

// P12.1: Can of all counts of 7 sorters.
func TestCanOfSeven(t *testing.T) {
	for place, many := range howMany[7]() {
		if can, e := club.Can(decode(7, place)); can != (many > 0) || e != api.OK {
			t.Fatalf("Can of %v: %v %d, but there are %d plans", decode(7, place), can, e, many)
		}
	}
}

// The model of howMany, by all plans there are.
func TestModel(t *testing.T) {
	for sorters := 1; sorters <= 6; sorters++ {
		many := make([]int32, power(sorters))
		for set := range modelSets(sorters) {
			many[code(modelCounts(modelPlan(sorters, set)))]++
		}
		if !slices.Equal(many, howMany[sorters]()) {
			t.Errorf("the plans of %d sorters", sorters)
		}
	}
}

// P12.4: Count and Only.
func TestCount(t *testing.T) {
	for counts := range someCounts(6) {
		many := plansOf(counts)
		wantResult(t, "Count", input{counts: counts}, many)
		switch many {
		case 0:
			wantError(t, "Only", input{counts: counts}, api.ErrLost)
		case 1:
			wantResult(t, "Only", input{counts: counts}, 1)
		default:
			wantResult(t, "Only", input{counts: counts}, 0)
		}
	}
}

// P12.3: Make, against the first of all plans of the counts.
func TestMake(t *testing.T) {
	for sorters := 1; sorters <= 6; sorters++ {
		first := make([][]int, power(sorters))
		for set := modelSets(sorters) - 1; set >= 0; set-- {
			p := modelPlan(sorters, set)
			if place := code(modelCounts(p)); first[place] == nil {
				first[place] = numbers(p)
			}
		}
		for place, want := range first {
			x := input{counts: decode(sorters, place)}
			if want == nil {
				wantError(t, "Make", x, api.ErrLost)
			} else {
				wantResult(t, "Make", x, want...)
			}
		}
	}
}

// R6: of sets of equally many tables the greater one has the smaller list, as TestMake takes it.
func TestModelOrder(t *testing.T) {
	for sorters := 1; sorters <= 5; sorters++ {
		before := map[int][][2]int{}
		for set := modelSets(sorters) - 1; set >= 0; set-- {
			tables := modelPlan(sorters, set).Tables
			if compareTables(before[len(tables)], tables) >= 0 && before[len(tables)] != nil {
				t.Fatalf("%v comes before %v", before[len(tables)], tables)
			}
			before[len(tables)] = tables
		}
	}
}

// modelFirst returns the first plan of counts: at each place the first table with which the rest can still be used up by tables behind it.
func modelFirst(counts []int) club.Plan {
	p := club.Plan{Sorters: len(counts)}
	left := slices.Clone(counts)
	for i, table := range everyTable[len(counts)] {
		left[table[0]]--
		left[table[1]]--
		if canBeUsedUp(left, everyTable[len(counts)][i+1:]) {
			p.Tables = append(p.Tables, table)
		} else {
			left[table[0]]++
			left[table[1]]++
		}
	}
	return p
}

// canBeUsedUp returns whether just what is left comes from some of the tables, the last ones of all.
func canBeUsedUp(left []int, tables [][2]int) bool {
	if slices.Min(left) < 0 {
		return false
	}
	if len(tables) == 0 {
		return slices.Max(left) == 0
	}
	table := tables[0]
	if slices.ContainsFunc(left[:table[0]], func(many int) bool { return many > 0 }) {
		return false
	}
	with := slices.Clone(left)
	with[table[0]]--
	with[table[1]]--
	return canBeUsedUp(with, tables[1:]) || canBeUsedUp(left, tables[1:])
}

// P12.3: Make of counts of 7 and of 8 sorters.
func TestMakeOfMany(t *testing.T) {
	for counts := range someCounts(0) {
		if len(counts) < 7 {
			continue
		}
		if plansOf(counts) == 0 {
			wantError(t, "Make", input{counts: counts}, api.ErrLost)
		} else {
			wantResult(t, "Make", input{counts: counts}, numbers(modelFirst(counts))...)
		}
	}
}

// P12.9: what is left to the others if a sorter sits with those of them who have the greatest counts.
func TestHavelAndHakimi(t *testing.T) {
	for counts := range someCounts(6) {
		if len(counts) == 1 {
			continue
		}
		can, e := club.Can(counts)
		if e != api.OK {
			t.Fatalf("Can of %v: %d", counts, e)
		}
		for sorter, many := range counts {
			rest := slices.Delete(slices.Clone(counts), sorter, sorter+1)
			slices.Sort(rest)
			for i := range many {
				rest[len(rest)-1-i]--
			}
			if is, _ := club.Can(rest); is != can {
				t.Fatalf("Can of %v: %v; and of the others than %d, %v: %v", counts, can, sorter, rest, is)
			}
		}
	}
}

// P12.12: counts have as many plans as those that are left to others.
func TestCountOfOthers(t *testing.T) {
	for counts := range someCounts(5) {
		many, e := club.Count(counts)
		if e != api.OK {
			t.Fatalf("Count of %v: %d", counts, e)
		}
		others := make([]int, len(counts))
		for sorter, count := range counts {
			others[sorter] = len(counts) - 1 - count
		}
		wantResult(t, "Count", input{counts: others}, many)
	}
}
