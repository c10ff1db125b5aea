package club_test

import (
	"math/rand"
	"slices"
	"testing"

	"vitola/api"
	"vitola/club"
)

// P12.5, P12.7: Counts, Others and Trios, of tidy plans and of the same ones told otherwise.
func TestPlans(t *testing.T) {
	random := rand.New(rand.NewSource(5))
	for tidy := range somePlans(6, 2000) {
		for _, p := range []club.Plan{tidy, told(random, tidy)} {
			wantResult(t, "CheckPlan", input{plan: p})
			wantResult(t, "Counts", input{plan: p}, modelCounts(p)...)
			wantResult(t, "Others", input{plan: p}, numbers(modelTidy(p, false))...)
			wantResult(t, "Trios", input{plan: p}, modelTrios(p))
		}
	}
}

// crossings gives each pair of indices of a plan, not turned and turned.
func crossings(p club.Plan) []input {
	var all []input
	for one := range p.Tables {
		for two := range p.Tables {
			all = append(all, input{plan: p, one: one, two: two}, input{plan: p, one: one, two: two, turned: true})
		}
	}
	return all
}

// P12.6, P12.10: Cross of any two tables; the counts stay.
func TestCross(t *testing.T) {
	random := rand.New(rand.NewSource(6))
	for tidy := range somePlans(5, 60) {
		for _, p := range []club.Plan{tidy, told(random, tidy)} {
			counts := modelCounts(p)
			for _, x := range crossings(p) {
				want, e := modelCross(p, x.one, x.two, x.turned)
				if e != api.OK {
					wantError(t, "Cross", x, e)
					continue
				}
				wantResult(t, "Cross", x, numbers(want)...)
				wantResult(t, "Counts", input{plan: want}, counts...)
			}
		}
	}
}

// F6: what was exchanged can be exchanged back.
func TestCrossBack(t *testing.T) {
	for p := range somePlans(5, 40) {
		for _, x := range crossings(p) {
			other, e := club.Cross(p, x.one, x.two, x.turned)
			if e != api.OK {
				continue
			}
			back := false
			for _, y := range crossings(other) {
				again, f := club.Cross(other, y.one, y.two, y.turned)
				back = back || f == api.OK && slices.Equal(again.Tables, p.Tables)
			}
			if !back {
				t.Fatalf("Cross of %v: %v, from which nothing leads back", x, other)
			}
		}
	}
}

// reached returns how many tidy plans can be reached from one by Cross.
func reached(t *testing.T, p club.Plan) int {
	t.Helper()
	seen := map[[28][2]int]bool{}
	key := func(p club.Plan) (k [28][2]int) {
		copy(k[:], p.Tables)
		return k
	}
	seen[key(p)] = true
	open := []club.Plan{p}
	for len(open) > 0 {
		next := open[0]
		open = open[1:]
		for _, x := range crossings(next) {
			other, e := club.Cross(next, x.one, x.two, x.turned)
			if e != api.OK || seen[key(other)] {
				continue
			}
			seen[key(other)] = true
			open = append(open, other)
		}
	}
	return len(seen)
}

// P12.10: any two tidy plans of the same counts lead to each other, for all counts of up to 5 sorters, all falling ones of 6 and 7, and some of 8.
func TestCrosswise(t *testing.T) {
	var all [][]int
	for sorters := 1; sorters <= 5; sorters++ {
		for place := range power(sorters) {
			all = append(all, decode(sorters, place))
		}
	}
	all = slices.AppendSeq(all, fallingCounts(6))
	all = slices.AppendSeq(all, fallingCounts(7))
	all = append(all, list(1, 1, 1, 1, 1, 1, 1, 1), list(3, 3, 2, 1, 1, 1, 1, 0), list(7, 6, 5, 5, 4, 4, 4, 3))
	for _, counts := range all {
		if plansOf(counts) == 0 {
			continue
		}
		p, e := club.Make(counts)
		if e != api.OK {
			t.Fatalf("Make of %v: %d", counts, e)
		}
		if many := reached(t, p); many != plansOf(counts) {
			t.Fatalf("from %v come %d plans, want %d", p, many, plansOf(counts))
		}
	}
}

// P12.11: Trios comes from the counts alone, and a plan and its Others have as many.
func TestGoodman(t *testing.T) {
	for p := range somePlans(6, 2000) {
		counts, e := club.Counts(p)
		if e != api.OK {
			t.Fatalf("Counts of %v: %d", p, e)
		}
		sum := 0
		for _, count := range counts {
			sum += count * (p.Sorters - 1 - count)
		}
		want := p.Sorters*(p.Sorters-1)*(p.Sorters-2)/6 - sum/2
		wantResult(t, "Trios", input{plan: p}, want)
		others, e := club.Others(p)
		if e != api.OK {
			t.Fatalf("Others of %v: %d", p, e)
		}
		wantResult(t, "Trios", input{plan: others}, want)
	}
}

// P12.12: Others of Others is the tidy plan of the same tables, and the counts are what is left.
func TestOthers(t *testing.T) {
	random := rand.New(rand.NewSource(7))
	for tidy := range somePlans(6, 2000) {
		p := told(random, tidy)
		others, e := club.Others(p)
		if e != api.OK {
			t.Fatalf("Others of %v: %d", p, e)
		}
		wantResult(t, "Others", input{plan: others}, numbers(tidy)...)
		want := modelCounts(p)
		for sorter, count := range want {
			want[sorter] = p.Sorters - 1 - count
		}
		wantResult(t, "Counts", input{plan: others}, want...)
	}
}

// F6: a plan of Make is right, and has the counts of which it was made.
func TestCountsOfMake(t *testing.T) {
	for counts := range someCounts(6) {
		if plansOf(counts) == 0 {
			continue
		}
		p, e := club.Make(counts)
		if e != api.OK {
			t.Fatalf("Make of %v: %d", counts, e)
		}
		wantResult(t, "Counts", input{plan: p}, counts...)
		wantResult(t, "CheckPlan", input{plan: p})
	}
}
