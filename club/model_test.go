package club_test

import (
	"cmp"
	"iter"
	"math"
	"math/rand"
	"slices"
	"sync"
	"testing"

	"vitola/api"
	"vitola/club"
)

// The tests compare the package with a model that follows the words of the chapter and shares nothing with the package.

func list(numbers ...int) []int { return numbers }

// plan returns a plan of tables that are told by two numbers each.
func plan(sorters int, numbers ...int) club.Plan {
	p := club.Plan{Sorters: sorters}
	for i := 1; i < len(numbers); i += 2 {
		p.Tables = append(p.Tables, [2]int{numbers[i-1], numbers[i]})
	}
	return p
}

// extremes are numbers that are never right, among them some that look right if they are cut to 32 bits.
func extremes() []int {
	return list(math.MinInt, math.MinInt+1, -1<<32, -1<<31, -9, -2, -1, 29, 1<<31-1, 1<<32, 1<<32+1, 1<<62, math.MaxInt-1, math.MaxInt)
}

// everyTable has, by the number of sorters, all tables in ascending order.
var everyTable = modelEveryTable()

func modelEveryTable() [9][][2]int {
	var all [9][][2]int
	for sorters := range all {
		for a := range sorters {
			for b := range sorters {
				if a < b {
					all[sorters] = append(all[sorters], [2]int{a, b})
				}
			}
		}
	}
	return all
}

// modelPlan returns the tidy plan with a set of tables, in which the first table is the highest bit: of sets with equally many tables the greater one has the smaller list.
func modelPlan(sorters, set int) club.Plan {
	p := club.Plan{Sorters: sorters}
	all := everyTable[sorters]
	for i, table := range all {
		if set>>(len(all)-1-i)&1 == 1 {
			p.Tables = append(p.Tables, table)
		}
	}
	return p
}

// modelSets is the number of sets of tables of so many sorters.
func modelSets(sorters int) int { return 1 << len(everyTable[sorters]) }

// modelCounts counts the tables of each sorter.
func modelCounts(p club.Plan) []int {
	counts := make([]int, p.Sorters)
	for sorter := range counts {
		for _, table := range p.Tables {
			if table[0] == sorter || table[1] == sorter {
				counts[sorter]++
			}
		}
	}
	return counts
}

// modelHas returns whether two sorters sit at a table.
func modelHas(p club.Plan, a, b int) bool {
	return slices.Contains(p.Tables, [2]int{a, b}) || slices.Contains(p.Tables, [2]int{b, a})
}

// modelTidy returns the tidy plan of the tables that are in a plan, or that are not.
func modelTidy(p club.Plan, in bool) club.Plan {
	tidy := club.Plan{Sorters: p.Sorters}
	for _, table := range everyTable[p.Sorters] {
		if modelHas(p, table[0], table[1]) == in {
			tidy.Tables = append(tidy.Tables, table)
		}
	}
	return tidy
}

// modelTrios counts the tables of any three sorters.
func modelTrios(p club.Plan) int {
	trios := 0
	for _, table := range everyTable[p.Sorters] {
		for third := table[1] + 1; third < p.Sorters; third++ {
			many := 0
			for _, two := range [][2]int{table, {table[0], third}, {table[1], third}} {
				if modelHas(p, two[0], two[1]) {
					many++
				}
			}
			if many == 0 || many == 3 {
				trios++
			}
		}
	}
	return trios
}

// modelCross exchanges tables of a right plan.
func modelCross(p club.Plan, one, two int, turned bool) (club.Plan, api.Errno) {
	if min(one, two) < 0 || max(one, two) >= len(p.Tables) {
		return club.Plan{}, api.ErrNone
	}
	first, second := p.Tables[one], p.Tables[two]
	different := map[int]bool{first[0]: true, first[1]: true, second[0]: true, second[1]: true}
	if len(different) < 4 {
		return club.Plan{}, api.ErrShape
	}
	if turned {
		second = [2]int{second[1], second[0]}
	}
	other := club.Plan{Sorters: p.Sorters}
	for i, table := range p.Tables {
		if i != one && i != two {
			other.Tables = append(other.Tables, table)
		}
	}
	for i := range 2 {
		if modelHas(p, first[i], second[i]) {
			return club.Plan{}, api.ErrTwice
		}
		other.Tables = append(other.Tables, [2]int{first[i], second[i]})
	}
	return modelTidy(other, true), api.OK
}

// modelAgainst takes the k greatest counts away one by one.
func modelAgainst(counts []int, k int) bool {
	others := slices.Clone(counts)
	sum := 0
	for range k {
		greatest := slices.Index(others, slices.Max(others))
		sum += others[greatest]
		others = slices.Delete(others, greatest, greatest+1)
	}
	for _, count := range others {
		if count < k {
			sum -= count
		} else {
			sum -= k
		}
	}
	return sum > k*(k-1)
}

// code returns the place of counts in the list of all counts of so many sorters.
func code(counts []int) int {
	place := 0
	for _, count := range counts {
		place = place*len(counts) + count
	}
	return place
}

// decode returns the counts at a place.
func decode(sorters, place int) []int {
	counts := make([]int, sorters)
	for sorter := sorters - 1; sorter >= 0; sorter-- {
		counts[sorter] = place % sorters
		place /= sorters
	}
	return counts
}

// power returns how many lists of counts of so many sorters there are.
func power(sorters int) int {
	many := 1
	for range sorters {
		many *= sorters
	}
	return many
}

// howMany has, by the number of sorters, how many plans all counts have.
var howMany = modelHowMany()

func modelHowMany() [9]func() []int32 {
	var all [9]func() []int32
	for sorters := 1; sorters < len(all); sorters++ {
		all[sorters] = sync.OnceValue(func() []int32 { return modelMany(sorters) })
	}
	return all
}

// modelMany adds one table after the other: each plan without it is one with it, of other counts.
func modelMany(sorters int) []int32 {
	many := make([]int32, power(sorters))
	many[0] = 1
	for _, table := range everyTable[sorters] {
		counts := make([]int, sorters)
		counts[table[0]], counts[table[1]] = 1, 1
		more := code(counts)
		for place := len(many) - 1; place >= more; place-- {
			many[place] += many[place-more]
		}
	}
	return many
}

// plansOf returns how many plans counts have.
func plansOf(counts []int) int { return int(howMany[len(counts)]()[code(counts)]) }

// fallingCounts gives all counts of so many sorters of which none is greater than one before it.
func fallingCounts(sorters int) iter.Seq[[]int] {
	return func(yield func([]int) bool) {
		counts := slices.Repeat(list(sorters-1), sorters)
		for yield(slices.Clone(counts)) {
			place := sorters - 1
			for place >= 0 && counts[place] == 0 {
				place--
			}
			if place < 0 {
				return
			}
			less := counts[place] - 1
			for i := place; i < sorters; i++ {
				counts[i] = less
			}
		}
	}
}

// someCounts gives all counts of up to so many sorters, and all falling ones of more, exchanged at random, always in the same way.
func someCounts(sorters int) iter.Seq[[]int] {
	return func(yield func([]int) bool) {
		for n := 1; n <= sorters; n++ {
			for place := range power(n) {
				if !yield(decode(n, place)) {
					return
				}
			}
		}
		random := rand.New(rand.NewSource(12))
		for n := sorters + 1; n <= 8; n++ {
			for counts := range fallingCounts(n) {
				random.Shuffle(n, func(i, j int) { counts[i], counts[j] = counts[j], counts[i] })
				if !yield(counts) {
					return
				}
			}
		}
	}
}

// somePlans gives all tidy plans of up to so many sorters, and as many samples of each greater number, always the same ones.
func somePlans(sorters, many int) iter.Seq[club.Plan] {
	return func(yield func(club.Plan) bool) {
		for n := 1; n <= sorters; n++ {
			for set := range modelSets(n) {
				if !yield(modelPlan(n, set)) {
					return
				}
			}
		}
		random := rand.New(rand.NewSource(13))
		for n := sorters + 1; n <= 8; n++ {
			for i := range many {
				set := random.Intn(modelSets(n))
				if i%3 == 1 {
					set &= random.Intn(modelSets(n))
				} else if i%3 == 2 {
					set |= random.Intn(modelSets(n))
				}
				if !yield(modelPlan(n, set)) {
					return
				}
			}
		}
	}
}

// told returns the plan with its tables in another order, and some of them with the greater sorter first.
func told(random *rand.Rand, p club.Plan) club.Plan {
	other := club.Plan{Sorters: p.Sorters}
	for _, i := range random.Perm(len(p.Tables)) {
		table := p.Tables[i]
		if random.Intn(2) == 1 {
			table = [2]int{table[1], table[0]}
		}
		other.Tables = append(other.Tables, table)
	}
	return other
}

// input has the arguments of all calls, of which each one takes some.
type input struct {
	counts   []int
	k        int
	plan     club.Plan
	one, two int
	turned   bool
}

// A call returns its results as one list, empty if all of them are zero values and there is an error.
type call struct {
	name string
	run  func(x input) ([]int, api.Errno)
}

// one returns a number as a list, or nothing if it is 0 and there is an error.
func one(number int, e api.Errno) ([]int, api.Errno) {
	if e != api.OK && number == 0 {
		return nil, e
	}
	return list(number), e
}

// truth returns 1 for true, and for false what there is of 0.
func truth(is bool, e api.Errno) ([]int, api.Errno) {
	if is {
		return one(1, e)
	}
	return one(0, e)
}

// numbers returns a plan as a list, which is empty if the plan is a zero value.
func numbers(p club.Plan) []int {
	var l []int
	if p.Sorters != 0 || len(p.Tables) > 0 {
		l = list(p.Sorters)
	}
	for _, table := range p.Tables {
		l = append(l, table[:]...)
	}
	return l
}

func flat(p club.Plan, e api.Errno) ([]int, api.Errno) { return numbers(p), e }

// callsOfCounts are the calls that return the error of counts at first.
func callsOfCounts() []call {
	return []call{
		{"Check", func(x input) ([]int, api.Errno) { return nil, club.Check(x.counts) }},
		{"Can", func(x input) ([]int, api.Errno) { return truth(club.Can(x.counts)) }},
		{"Why", func(x input) ([]int, api.Errno) { return one(club.Why(x.counts)) }},
		{"Proves", func(x input) ([]int, api.Errno) { return nil, club.Proves(x.counts, x.k) }},
		{"Make", func(x input) ([]int, api.Errno) { return flat(club.Make(x.counts)) }},
		{"Count", func(x input) ([]int, api.Errno) { return one(club.Count(x.counts)) }},
		{"Only", func(x input) ([]int, api.Errno) { return truth(club.Only(x.counts)) }},
	}
}

// callsOfPlans are the calls that return the error of a plan at first.
func callsOfPlans() []call {
	return []call{
		{"CheckPlan", func(x input) ([]int, api.Errno) { return nil, club.CheckPlan(x.plan) }},
		{"Counts", func(x input) ([]int, api.Errno) { return club.Counts(x.plan) }},
		{"Cross", func(x input) ([]int, api.Errno) { return flat(club.Cross(x.plan, x.one, x.two, x.turned)) }},
		{"Others", func(x input) ([]int, api.Errno) { return flat(club.Others(x.plan)) }},
		{"Trios", func(x input) ([]int, api.Errno) { return one(club.Trios(x.plan)) }},
	}
}

func calls() []call { return slices.Concat(callsOfCounts(), callsOfPlans()) }

// named returns the call with a name.
func named(name string) call {
	all := calls()
	return all[slices.IndexFunc(all, func(c call) bool { return c.name == name })]
}

func wantError(t *testing.T, name string, x input, want api.Errno) {
	t.Helper()
	if l, e := named(name).run(x); e != want || len(l) != 0 {
		t.Fatalf("%s of %v: %v %d, want error %d", name, x, l, e, want)
	}
}

// wantResult compares what a call returns with a list.
func wantResult(t *testing.T, name string, x input, want ...int) {
	t.Helper()
	if l, e := named(name).run(x); !slices.Equal(l, want) || e != api.OK {
		t.Fatalf("%s of %v: %v %d, want %v", name, x, l, e, want)
	}
}

// compareTables compares two lists of tables (R6).
func compareTables(a, b [][2]int) int {
	return slices.CompareFunc(a, b, func(one, other [2]int) int {
		return cmp.Or(cmp.Compare(one[0], other[0]), cmp.Compare(one[1], other[1]))
	})
}
