package grade_test

import (
	"iter"
	"math"
	"math/bits"
	"slices"
	"testing"

	"vitola/api"
	"vitola/grade"
)

// The tests compare the package with a model that follows the words of the chapter and shares nothing with the package.

func list(numbers ...int) []int { return numbers }

// one and two are the orders A and B of the chapter's examples.
func one() []int { return list(1, 3, 0, 2) }

func two() []int { return list(3, 1, 2, 0) }

// lists gives all lists of numbers from low to high with a length, in ascending order.
func lists(length, low, high int) iter.Seq[[]int] {
	return func(yield func([]int) bool) {
		l := slices.Repeat(list(low), length)
		for {
			if !yield(slices.Clone(l)) {
				return
			}
			i := length - 1
			for i >= 0 && l[i] == high {
				l[i] = low
				i--
			}
			if i < 0 {
				return
			}
			l[i]++
		}
	}
}

// known has the orders that were already asked for, by how many bales they have.
var known [8][][]int

// orders returns all orders of so many bales, in ascending order.
func orders(bales int) [][]int {
	if known[bales] == nil {
		known[bales] = makeOrders(bales)
	}
	return known[bales]
}

func makeOrders(bales int) [][]int {
	var found [][]int
	var grow func(begin []int)
	grow = func(begin []int) {
		if len(begin) == bales {
			found = append(found, begin)
			return
		}
		for bale := range bales {
			if !slices.Contains(begin, bale) {
				grow(append(slices.Clone(begin), bale))
			}
		}
	}
	grow(nil)
	return found
}

// everyOrder gives all orders there are.
func everyOrder() iter.Seq[[]int] {
	return func(yield func([]int) bool) {
		for bales := 1; bales <= 7; bales++ {
			for _, l := range orders(bales) {
				if !yield(l) {
					return
				}
			}
		}
	}
}

// dice returns a source of numbers, the same ones each time.
func dice(seed uint32) func(below int) int {
	return func(below int) int {
		seed = seed*1664525 + 1013904223
		return int(seed>>16) % below
	}
}

// two orders of as many bales.
type twin struct{ a, b []int }

// twins gives all two orders of at most so many bales.
func twins(most int) iter.Seq[twin] {
	return func(yield func(twin) bool) {
		for bales := 1; bales <= most; bales++ {
			all := orders(bales)
			for _, a := range all {
				for _, b := range all {
					if !yield(twin{slices.Clone(a), slices.Clone(b)}) {
						return
					}
				}
			}
		}
	}
}

// samples gives some two orders of 5 to 7 bales; some of them are near each other, and some far.
func samples(many int) iter.Seq[twin] {
	return func(yield func(twin) bool) {
		next := dice(31)
		for i := range many {
			all := orders(5 + i%3)
			a := slices.Clone(all[next(len(all))])
			b := slices.Clone(all[next(len(all))])
			if i%4 == 1 {
				b = near(a, next)
			} else if i%4 == 2 {
				b = near(turnedRound(a), next)
			}
			if !yield(twin{a, b}) {
				return
			}
		}
	}
}

// near returns an order that some exchanges make out of another one.
func near(l []int, next func(int) int) []int {
	other := slices.Clone(l)
	for range 1 + next(4) {
		i := next(len(l) - 1)
		other[i], other[i+1] = other[i+1], other[i]
	}
	return other
}

func turnedRound(l []int) []int {
	other := slices.Clone(l)
	slices.Reverse(other)
	return other
}

// inputs gives all two orders of few bales, and samples.
func inputs() iter.Seq[twin] {
	return func(yield func(twin) bool) {
		for _, some := range []iter.Seq[twin]{twins(4), samples(480)} {
			for w := range some {
				if !yield(w) {
					return
				}
			}
		}
	}
}

func modelCheck(l []int) api.Errno {
	if len(l) == 0 {
		return api.ErrEmpty
	}
	if len(l) > 7 {
		return api.ErrMany
	}
	for i, n := range l {
		if n < 0 || n > len(l)-1 {
			return api.ErrNone
		}
		if slices.Contains(l[:i], n) {
			return api.ErrTwice
		}
	}
	return api.OK
}

// modelDiffer returns the pairs in which two orders differ, sorted.
func modelDiffer(a, b []int) [][2]int {
	var found [][2]int
	for i, x := range a {
		for _, y := range a[i+1:] {
			if slices.Index(b, y) < slices.Index(b, x) {
				found = append(found, [2]int{x, y})
			}
		}
	}
	slices.SortFunc(found, func(p, q [2]int) int { return slices.Compare(p[:], q[:]) })
	return found
}

// modelTurned returns the turned pairs as bits, one for each two bales.
func modelTurned(l []int) uint64 {
	var set uint64
	for i, x := range l {
		for _, y := range l[i+1:] {
			if x > y {
				set |= 1 << (7*x + y)
			}
		}
	}
	return set
}

// modelFar returns, for each order, how many exchanges lead from it to b at least.
func modelFar(b []int) map[string]int {
	far := map[string]int{key(b): 0}
	for next := [][]int{b}; len(next) > 0; next = next[1:] {
		for i := range len(b) - 1 {
			l := slices.Clone(next[0])
			l[i], l[i+1] = l[i+1], l[i]
			if _, known := far[key(l)]; !known {
				far[key(l)] = far[key(next[0])] + 1
				next = append(next, l)
			}
		}
	}
	return far
}

// key returns a list of small numbers as a string.
func key(l []int) string {
	var text []byte
	for _, n := range l {
		text = append(text, byte(n))
	}
	return string(text)
}

// modelWay returns the first of the shortest ways; far has the distances to its end.
func modelWay(a []int, far map[string]int) []int {
	var way []int
	l := slices.Clone(a)
	for left := far[key(l)]; left > 0; left-- {
		for i := range len(l) - 1 {
			l[i], l[i+1] = l[i+1], l[i]
			if far[key(l)] == left-1 {
				way = append(way, i)
				break
			}
			l[i], l[i+1] = l[i+1], l[i]
		}
	}
	return way
}

// modelBetween returns whether x is between a and b.
func modelBetween(a, b, x []int) bool {
	u, v, w := modelTurned(a), modelTurned(b), modelTurned(x)
	return (u^w)&^(u^v) == 0
}

// modelAllBetween returns all orders between two others, in ascending order.
func modelAllBetween(a, b []int) [][]int {
	var found [][]int
	for _, x := range orders(len(a)) {
		if modelBetween(a, b, x) {
			found = append(found, x)
		}
	}
	return found
}

// modelJoin returns the orders with the fewest turned pairs of those that turn all that a or b turns.
func modelJoin(a, b []int) [][]int {
	return modelLeast(len(a), func(l []int) (bool, int) {
		turned := modelTurned(l)
		return (modelTurned(a)|modelTurned(b))&^turned == 0, bits.OnesCount64(turned)
	})
}

// modelMeet returns the orders with the most turned pairs of those that turn only what a and b turn.
func modelMeet(a, b []int) [][]int {
	return modelLeast(len(a), func(l []int) (bool, int) {
		turned := modelTurned(l)
		return turned&^(modelTurned(a)&modelTurned(b)) == 0, -bits.OnesCount64(turned)
	})
}

// modelLeast returns, of the orders that are good, those with the least number.
func modelLeast(bales int, ask func([]int) (bool, int)) [][]int {
	var found [][]int
	least := math.MaxInt
	for _, l := range orders(bales) {
		good, number := ask(l)
		if good && number < least {
			found, least = nil, number
		}
		if good && number == least {
			found = append(found, l)
		}
	}
	return found
}

func modelCode(l []int) []int {
	var code []int
	for i, x := range l {
		n := 0
		for _, y := range l {
			if y < x && slices.Index(l, y) > i {
				n++
			}
		}
		code = append(code, n)
	}
	return code
}

func modelMajor(l []int) int {
	sum := 0
	for place := range len(l) - 1 {
		if l[place] > l[place+1] {
			sum += place + 1
		}
	}
	return sum
}

// modelShift writes down bales, and parts of them, one after the other.
func modelShift(l []int) []int {
	var written []int
	for _, x := range l {
		var parts [][]int
		var part []int
		for _, bale := range written {
			part = append(part, bale)
			greater := written[len(written)-1] > x
			if greater && bale > x || !greater && bale < x {
				parts = append(parts, part)
				part = nil
			}
		}
		written = nil
		for _, p := range parts {
			written = append(written, p[len(p)-1])
			written = append(written, p[:len(p)-1]...)
		}
		written = append(written, x)
	}
	return written
}

// A call takes three lists; it has numbers as its result.
type call struct {
	name string
	many int // how many of the lists are orders
	run  func(a, b, x []int) ([]int, api.Errno)
}

// noted returns a number as a result, none if it is 0.
func noted(n int, e api.Errno) ([]int, api.Errno) {
	if n == 0 {
		return nil, e
	}
	return list(n), e
}

// flat returns pairs as a result.
func flat(pairs [][2]int, e api.Errno) ([]int, api.Errno) {
	var l []int
	for _, p := range pairs {
		l = append(l, p[:]...)
	}
	return l, e
}

// callsOfOrders are all calls that have orders.
func callsOfOrders() []call {
	return []call{
		{"Check", 1, func(a, _, _ []int) ([]int, api.Errno) { return nil, grade.Check(a) }},
		{"Differ", 2, func(a, b, _ []int) ([]int, api.Errno) { return flat(grade.Differ(a, b)) }},
		{"Way", 2, func(a, b, _ []int) ([]int, api.Errno) { return grade.Way(a, b) }},
		{"Leads", 2, func(a, b, x []int) ([]int, api.Errno) { return nil, grade.Leads(a, b, x) }},
		{"Between", 3, func(a, b, x []int) ([]int, api.Errno) {
			is, e := grade.Between(a, b, x)
			if is {
				return list(1), e
			}
			return nil, e
		}},
		{"Joint", 2, func(a, b, _ []int) ([]int, api.Errno) { return noted(grade.Joint(a, b)) }},
		{"First", 2, func(a, b, _ []int) ([]int, api.Errno) { return grade.First(a, b) }},
		{"Join", 2, func(a, b, _ []int) ([]int, api.Errno) { return grade.Join(a, b) }},
		{"Meet", 2, func(a, b, _ []int) ([]int, api.Errno) { return grade.Meet(a, b) }},
		{"Code", 1, func(a, _, _ []int) ([]int, api.Errno) { return grade.Code(a) }},
		{"Major", 1, func(a, _, _ []int) ([]int, api.Errno) { return noted(grade.Major(a)) }},
		{"Shift", 1, func(a, _, _ []int) ([]int, api.Errno) { return grade.Shift(a) }},
		{"Back", 1, func(a, _, _ []int) ([]int, api.Errno) { return grade.Back(a) }},
	}
}

// calls are all calls that have lists.
func calls() []call {
	return append(callsOfOrders(), call{"From", 0, func(a, _, _ []int) ([]int, api.Errno) { return grade.From(a) }})
}

// wantList fails if a call that has a list as its result has another one.
func wantList(t *testing.T, what string, r []int, e api.Errno, want []int) {
	t.Helper()
	if !slices.Equal(r, want) || e != api.OK {
		t.Fatalf("%s: %v %d, want %v", what, r, e, want)
	}
}
