package bench_test

import (
	"iter"
	"math"
	"slices"
	"testing"

	"vitola/api"
	"vitola/bench"
)

// The tests compare the package with a model that follows the words of the chapter and shares nothing with the package.

func list(numbers ...int) []int { return numbers }

// extremes are numbers that are never right, among them some that look right if they are cut to 32 bits.
func extremes() []int {
	return list(math.MinInt, math.MinInt+1, -1<<32, -1<<31, -1000000000, -21, -2, -1, 1000000001, 1<<31-1, 1<<32+3, 1<<62, math.MaxInt)
}

// A run is what is seen when rollers are counted out.
type run struct {
	order   []int
	counted []int // how often, roller by roller
}

// A ring is a bench at which the model goes from one roller to the next one.
type ring struct {
	behind     []int // who is counted after a roller
	at, before int   // who was counted last, and who sits before
	sitting    int
}

func modelRing(n int) *ring {
	r := &ring{behind: make([]int, n), at: n - 1, sitting: n}
	for roller := range n - 1 {
		r.behind[roller] = roller + 1
	}
	return r
}

// step counts the next roller.
func (r *ring) step() int {
	r.before, r.at = r.at, r.behind[r.at]
	return r.at
}

// leave sends home who was counted last.
func (r *ring) leave() {
	r.behind[r.before] = r.behind[r.at]
	r.at = r.before
	r.sitting--
}

// modelRun counts step by step; of a great count it takes whole rounds at once.
func modelRun(n, count int) run {
	r := modelRing(n)
	x := run{counted: make([]int, n)}
	for r.sitting > 0 {
		left := count
		if left > 500 {
			rounds := left/r.sitting - 1
			left -= rounds * r.sitting
			for range r.sitting {
				x.counted[r.step()] += rounds
			}
		}
		for range left {
			x.counted[r.step()]++
		}
		x.order = append(x.order, r.at)
		r.leave()
	}
	return x
}

// known has the numbers of orders that were already asked for, 0 for the others.
var known [bench.MaxRollers + 1]int

// modelOrders returns the smallest number above 0 that all numbers from 1 to n divide.
func modelOrders(n int) int {
	for number := n; known[n] == 0; number += n {
		divided := true
		for by := n; by > 0 && divided; by-- {
			divided = number%by == 0
		}
		if divided {
			known[n] = number
		}
	}
	return known[n]
}

// modelCheck looks at the numbers of an order one by one.
func modelCheck(order []int) api.Errno {
	n := len(order)
	if n < 1 || n > 20 {
		return api.ErrRange
	}
	seen := map[int]bool{}
	for _, roller := range order {
		if roller < 0 || roller > n-1 {
			return api.ErrNone
		}
		if seen[roller] {
			return api.ErrTwice
		}
		seen[roller] = true
	}
	return api.OK
}

// modelRemainders counts, each time, until the roller of the order is reached.
func modelRemainders(order []int) []int {
	var found []int
	r := modelRing(len(order))
	for _, roller := range order {
		count := 1
		for r.step() != roller {
			count++
		}
		found = append(found, count%r.sitting)
		r.leave()
	}
	return found
}

// modelPossible returns whether no two remainders contradict each other, asking it of each number that divides both divisors.
func modelPossible(rests []int) bool {
	n := len(rests)
	for i := range rests {
		for j := range i {
			for by := 2; by <= n; by++ {
				if (n-i)%by == 0 && (n-j)%by == 0 && rests[i]%by != rests[j]%by {
					return false
				}
			}
		}
	}
	return true
}

// orders gives all orders of n rollers, possible or not.
func orders(n int) iter.Seq[[]int] {
	return func(yield func([]int) bool) {
		order := make([]int, 0, n)
		var further func() bool
		further = func() bool {
			if len(order) == n {
				return yield(slices.Clone(order))
			}
			for roller := range n {
				if slices.Contains(order, roller) {
					continue
				}
				order = append(order, roller)
				if !further() {
					return false
				}
				order = order[:len(order)-1]
			}
			return true
		}
		further()
	}
}

// lists gives all lists of so many numbers from low to high.
func lists(length, low, high int) iter.Seq[[]int] {
	return func(yield func([]int) bool) {
		l := slices.Repeat(list(low), length)
		for {
			if !yield(slices.Clone(l)) {
				return
			}
			i := length - 1
			for i >= 0 && l[i] == high {
				l[i] = low
				i--
			}
			if i < 0 {
				return
			}
			l[i]++
		}
	}
}

// counts gives all counts up to a number, then greater and greater ones, and those around the number of possible orders and the greatest count.
func counts(n, all int) iter.Seq[int] {
	return func(yield func(int) bool) {
		for count := 1; count <= bench.MaxCount; {
			if !yield(count) {
				return
			}
			count++
			if count > all {
				count += count / 7
			}
		}
		for off := -3; off <= 3; off++ {
			for _, count := range list(modelOrders(n)+off, 2*modelOrders(n)+off, bench.MaxCount-3+off) {
				if count > 0 && !yield(count) {
					return
				}
			}
		}
	}
}

// benches gives all numbers of rollers, each with counts.
func benches(all int) iter.Seq2[int, int] {
	return func(yield func(n, count int) bool) {
		for n := 1; n <= bench.MaxRollers; n++ {
			for count := range counts(n, all) {
				if !yield(n, count) {
					return
				}
			}
		}
	}
}

// An input has all that calls may take.
type input struct {
	rollers, count int
	number         int   // a roller or a place
	rollersOf      []int // an order, or those who go first
}

// A call takes what it needs of an input; it has numbers as its result, none if there are only zero values.
type call struct {
	name string
	run  func(x input) ([]int, api.Errno)
}

// noted returns a number as a result.
func noted(number int, e api.Errno) ([]int, api.Errno) {
	if number == 0 {
		return nil, e
	}
	return list(number), e
}

// callsOfOne are the calls that have a number of rollers, a count, and a roller or a place.
func callsOfOne() []call {
	return []call{
		{"When", func(x input) ([]int, api.Errno) { return noted(bench.When(x.rollers, x.count, x.number)) }},
		{"Who", func(x input) ([]int, api.Errno) { return noted(bench.Who(x.rollers, x.count, x.number)) }},
		{"Counted", func(x input) ([]int, api.Errno) { return noted(bench.Counted(x.rollers, x.count, x.number)) }},
	}
}

// callsOfCounts are all calls that have a number of rollers and a count.
func callsOfCounts() []call {
	return append(callsOfOne(), []call{
		{"Order", func(x input) ([]int, api.Errno) { return bench.Order(x.rollers, x.count) }},
		{"Last", func(x input) ([]int, api.Errno) { return noted(bench.Last(x.rollers, x.count)) }},
	}...)
}

// callsOfRollers are the calls that have a number of rollers and no count.
func callsOfRollers() []call {
	return []call{
		{"Orders", func(x input) ([]int, api.Errno) { return noted(bench.Orders(x.rollers)) }},
		{"Smallest", func(x input) ([]int, api.Errno) { return noted(bench.Smallest(x.rollers, x.number)) }},
		{"First", func(x input) ([]int, api.Errno) { return noted(bench.First(x.rollers, x.rollersOf)) }},
	}
}

// callsOfOrders are the calls that have an order.
func callsOfOrders() []call {
	return []call{
		{"Check", func(x input) ([]int, api.Errno) { return nil, bench.Check(x.rollersOf) }},
		{"Count", func(x input) ([]int, api.Errno) { return noted(bench.Count(x.rollersOf)) }},
		{"Remainders", func(x input) ([]int, api.Errno) { return bench.Remainders(x.rollersOf) }},
	}
}

// calls are all calls.
func calls() []call {
	return slices.Concat(callsOfCounts(), callsOfRollers(), callsOfOrders())
}

// wantError fails if a call does not just return an error.
func wantError(t *testing.T, c call, x input, want api.Errno) {
	t.Helper()
	if r, e := c.run(x); len(r) != 0 || e != want {
		t.Errorf("%s of %v: %v %d, want error %d only", c.name, x, r, e, want)
	}
}

// wantList fails if a call that has a list as its result has another one.
func wantList(t *testing.T, what string, of any, r []int, e api.Errno, want []int) {
	t.Helper()
	if !slices.Equal(r, want) || e != api.OK {
		t.Fatalf("%s of %v: %v %d, want %v", what, of, r, e, want)
	}
}

// wantNumber fails if a call that has a number as its result has another one.
func wantNumber(t *testing.T, what string, of any, n int, e api.Errno, want int, f api.Errno) {
	t.Helper()
	if n != want || e != f {
		t.Fatalf("%s of %v: %d %d, want %d %d", what, of, n, e, want, f)
	}
}
