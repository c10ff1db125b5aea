package duty_test

import (
	"iter"
	"math"
	"math/big"
	"math/rand"
	"slices"
	"sync"
	"testing"

	"vitola/api"
	"vitola/duty"
)

// The tests compare the package with a model that follows the words of the chapter and shares nothing with the package.

func list(numbers ...int) []int { return numbers }

func of(above, below int) duty.Fraction { return duty.Fraction{Above: above, Below: below} }

// extremes are numbers that are never right, among them some that look right if they are cut to 32 bits.
func extremes() []int {
	return list(math.MinInt, math.MinInt+1, -1<<32, -1<<32+2, -1<<31, -2001, -2, -1, 100_001, 1<<31-1, 1<<31, 1<<32, 1<<32+1, 1<<32+2, 1<<32+5, 1<<62, math.MaxInt-1, math.MaxInt)
}

// fractions gives all fractions, reduced or not.
func fractions() iter.Seq[duty.Fraction] {
	return func(yield func(duty.Fraction) bool) {
		for below := 2; below <= 30; below++ {
			for above := 1; above < below; above++ {
				if !yield(of(above, below)) {
					return
				}
			}
		}
	}
}

// modelReduced returns the equal fraction with the smallest numbers.
func modelReduced(f duty.Fraction) duty.Fraction {
	for other := range fractions() {
		if other.Above*f.Below == f.Above*other.Below {
			return other
		}
	}
	return of(0, 0)
}

// rational returns a fraction as a number of the library.
func rational(above, below int) *big.Rat { return big.NewRat(int64(above), int64(below)) }

// modelSum adds the fractions for which parts stand.
func modelSum(parts []int) *big.Rat {
	sum := new(big.Rat)
	for _, part := range parts {
		sum.Add(sum, rational(1, part))
	}
	return sum
}

// modelGreedy looks for the smallest part that is not greater than what is left.
func modelGreedy(f duty.Fraction) ([]int, api.Errno) {
	var parts []int
	left := rational(f.Above, f.Below)
	for left.Sign() > 0 {
		part := 2
		for rational(1, part).Cmp(left) > 0 {
			part++
			if part > 2000 {
				return nil, api.ErrOver
			}
		}
		parts = append(parts, part)
		left.Sub(left, rational(1, part))
	}
	return parts, api.OK
}

// modelPairs tries all two numbers up to the greatest one there can be.
func modelPairs(part int) [][2]int {
	var pairs [][2]int
	for x := 1; x <= part*(part+1); x++ {
		for y := x + 1; y <= part*(part+1); y++ {
			if part*(x+y) == x*y {
				pairs = append(pairs, [2]int{x, y})
			}
		}
	}
	return pairs
}

// isSides returns whether two numbers are sides of a fraction, reduced.
func isSides(f duty.Fraction, u, v int) bool {
	if u < 1 || u >= v || f.Below%u != 0 || f.Below%v != 0 || (u+v)%f.Above != 0 {
		return false
	}
	for divisor := 2; divisor <= u; divisor++ {
		if u%divisor == 0 && v%divisor == 0 {
			return false
		}
	}
	return true
}

// modelSides returns all sides of a fraction, in ascending order.
func modelSides(f duty.Fraction) [][2]int {
	f = modelReduced(f)
	var sides [][2]int
	for u := 1; u <= f.Below; u++ {
		for v := 1; v <= f.Below; v++ {
			if isSides(f, u, v) {
				sides = append(sides, [2]int{u, v})
			}
		}
	}
	return sides
}

// lists has, by the number of parts, all lists of so many parts that make a fraction.
type lists [4][][]int

// makings has the lists of each reduced fraction.
var makings = sync.OnceValue(func() map[duty.Fraction]lists {
	all := map[duty.Fraction]lists{}
	for f := range fractions() {
		if modelReduced(f) == f {
			all[f] = lists{nil, modelOne(f), modelTwo(f), modelThree(f)}
		}
	}
	return all
})

// makingsOf returns the lists of a fraction.
func makingsOf(f duty.Fraction) lists { return makings()[modelReduced(f)] }

func modelOne(f duty.Fraction) [][]int {
	var found [][]int
	for part := 2; part <= 2000; part++ {
		if f.Above*part == f.Below {
			found = append(found, list(part))
		}
	}
	return found
}

// modelTwo tries all two parts: the smaller one is below 60, as two that are not make less than a thirtieth.
func modelTwo(f duty.Fraction) [][]int {
	var found [][]int
	for x := 2; x < 60; x++ {
		for y := x + 1; y <= 2000; y++ {
			if f.Below*(x+y) == f.Above*x*y {
				found = append(found, list(x, y))
			}
		}
	}
	return found
}

// modelThree tries all two parts, the smaller one below 90, for what is left to the third one.
func modelThree(f duty.Fraction) [][]int {
	var found [][]int
	for x := 2; x < 90; x++ {
		for y := x + 1; y <= 2000; y++ {
			above := f.Above*x*y - f.Below*(x+y)
			below := f.Below * x * y
			if above > 0 && below%above == 0 && y < below/above && below/above <= 2000 {
				found = append(found, list(x, y, below/above))
			}
		}
	}
	return found
}

// modelFewest returns the first one of the shortest lists.
func modelFewest(f duty.Fraction) []int {
	for _, some := range makingsOf(f) {
		if len(some) > 0 {
			return some[0]
		}
	}
	return nil
}

// modelDivide divides one of right parts.
func modelDivide(parts []int, index int) ([]int, api.Errno) {
	if !slices.Contains([]int{0, 1, 2, 3}[:len(parts)], index) {
		return nil, api.ErrNone
	}
	if len(parts) > 3 {
		return nil, api.ErrMany
	}
	part := parts[index]
	divided := list(part+1, part*(part+1))
	if divided[1] > 2000 {
		return nil, api.ErrOver
	}
	for _, other := range parts {
		if slices.Contains(divided, other) {
			return nil, api.ErrTwice
		}
		if other != part {
			divided = append(divided, other)
		}
	}
	slices.Sort(divided)
	return divided, api.OK
}

// modelCents returns the cents of each part, and behind them what is over.
func modelCents(total int, parts []int) []int {
	var cents []int
	all := new(big.Rat).Mul(rational(total, 1), modelSum(parts))
	over := int(new(big.Int).Quo(all.Num(), all.Denom()).Int64())
	for _, part := range parts {
		each := (total - total%part) / part
		cents = append(cents, each)
		over -= each
	}
	return append(cents, over)
}

// allParts gives all parts up to a greatest one.
func allParts(greatest int) iter.Seq[[]int] {
	return func(yield func([]int) bool) {
		all := [][]int{nil}
		for len(all) > 0 {
			parts := all[0]
			all = all[1:]
			if !yield(slices.Clone(parts)) {
				return
			}
			next := 2
			if len(parts) > 0 {
				next = parts[len(parts)-1] + 1
			}
			for ; next <= greatest && len(parts) < 4; next++ {
				all = append(all, append(slices.Clone(parts), next))
			}
		}
	}
}

// someParts gives all parts up to 13, and samples up to 2000, always the same ones.
func someParts() iter.Seq[[]int] {
	return func(yield func([]int) bool) {
		for parts := range allParts(13) {
			if !yield(parts) {
				return
			}
		}
		for _, parts := range [][]int{{44}, {45}, {2000}, {44, 45}, {44, 1980}, {1999, 2000}, {1998, 1999, 2000}, {1997, 1998, 1999, 2000}, {1987, 1993, 1997, 1999}} {
			if !yield(parts) {
				return
			}
		}
		random := rand.New(rand.NewSource(1))
		for range 3000 {
			var parts []int
			greatest := []int{20, 60, 200, 2000}[random.Intn(4)]
			for range random.Intn(5) {
				parts = append(parts, 2+random.Intn(greatest-1))
			}
			slices.Sort(parts)
			if !yield(slices.Compact(parts)) {
				return
			}
		}
	}
}

// input has the arguments of all calls, of which each one takes some.
type input struct {
	f     duty.Fraction
	many  int
	parts []int
	index int
	total int
	part  int
}

// A call returns its results as one list, empty if all of them are zero values and there is an error.
type call struct {
	name string
	run  func(x input) ([]int, api.Errno)
}

// plain returns numbers as they are, or nothing if all of them are 0 and there is an error.
func plain(e api.Errno, numbers ...int) ([]int, api.Errno) {
	if e != api.OK && !slices.ContainsFunc(numbers, func(number int) bool { return number != 0 }) {
		return nil, e
	}
	return numbers, e
}

// callsOfFractions are the calls that return the error of a fraction at first.
func callsOfFractions() []call {
	return []call{
		{"Check", func(x input) ([]int, api.Errno) { return nil, duty.Check(x.f) }},
		{"Reduced", func(x input) ([]int, api.Errno) {
			f, e := duty.Reduced(x.f)
			return plain(e, f.Above, f.Below)
		}},
		{"Greedy", func(x input) ([]int, api.Errno) { return duty.Greedy(x.f) }},
		{"Two", func(x input) ([]int, api.Errno) { return duty.Two(x.f) }},
		{"Sides", func(x input) ([]int, api.Errno) {
			u, v, e := duty.Sides(x.f)
			return plain(e, u, v)
		}},
		{"Fewest", func(x input) ([]int, api.Errno) { return duty.Fewest(x.f) }},
		{"Ways", func(x input) ([]int, api.Errno) {
			ways, e := duty.Ways(x.f, x.many)
			return plain(e, ways)
		}},
	}
}

// callsOfParts are the calls that return the error of parts at first, Cents if the total is right.
func callsOfParts() []call {
	return []call{
		{"CheckParts", func(x input) ([]int, api.Errno) { return nil, duty.CheckParts(x.parts) }},
		{"Sum", func(x input) ([]int, api.Errno) {
			above, below, e := duty.Sum(x.parts)
			return plain(e, above, below)
		}},
		{"Divide", func(x input) ([]int, api.Errno) { return duty.Divide(x.parts, x.index) }},
		{"Cents", func(x input) ([]int, api.Errno) {
			each, over, e := duty.Cents(x.total, x.parts)
			more, e := plain(e, over)
			return append(each, more...), e
		}},
	}
}

func pairs(x input) ([]int, api.Errno) {
	found, e := duty.Pairs(x.part)
	return numbers(found), e
}

// numbers returns pairs as a list.
func numbers(pairs [][2]int) []int {
	var l []int
	for _, pair := range pairs {
		l = append(l, pair[0], pair[1])
	}
	return l
}

func calls() []call {
	return slices.Concat(callsOfFractions(), callsOfParts(), []call{{"Pairs", pairs}})
}

// named returns the call with a name.
func named(name string) call {
	all := calls()
	return all[slices.IndexFunc(all, func(c call) bool { return c.name == name })]
}

func wantError(t *testing.T, name string, x input, want api.Errno) {
	t.Helper()
	if l, e := named(name).run(x); e != want || len(l) != 0 {
		t.Fatalf("%s of %v: %v %d, want error %d", name, x, l, e, want)
	}
}

// wantResult compares what a call returns with a list.
func wantResult(t *testing.T, name string, x input, want ...int) {
	t.Helper()
	if l, e := named(name).run(x); !slices.Equal(l, want) || e != api.OK {
		t.Fatalf("%s of %v: %v %d, want %v", name, x, l, e, want)
	}
}

// wantParts compares what a call returns with parts, or with an error if there are none.
func wantParts(t *testing.T, name string, x input, want []int, e api.Errno) {
	t.Helper()
	if e != api.OK {
		wantError(t, name, x, e)
	} else {
		wantResult(t, name, x, want...)
	}
}
