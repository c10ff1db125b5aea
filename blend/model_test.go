package blend_test

import (
	"iter"
	"math"
	"slices"
	"testing"

	"vitola/api"
	"vitola/blend"
)

// The tests compare the package with a model that follows the words of the chapter and shares nothing with the package.

func list(numbers ...int) []int { return numbers }

// recipe is K of the chapter's examples.
func recipe() blend.Recipe {
	return blend.Recipe{Weights: list(5, 3, 8, 2, 9), Low: 12, High: 14}
}

// dice returns a source of numbers, the same ones each time.
func dice(seed uint32) func(below int) int {
	return func(below int) int {
		seed = seed*1664525 + 1013904223
		return int(seed>>16) % below
	}
}

// blends returns all blends of a size of so many leaves, in ascending order.
func blends(leaves, size int) [][]int {
	var found [][]int
	var grow func(begin []int, from int)
	grow = func(begin []int, from int) {
		if len(begin) == size {
			found = append(found, begin)
			return
		}
		for leaf := from; leaf < leaves; leaf++ {
			grow(append(slices.Clone(begin), leaf), leaf+1)
		}
	}
	grow([]int{}, 0)
	return found
}

// sizes gives each number of leaves with each size of its blends.
func sizes() iter.Seq2[int, int] {
	return func(yield func(int, int) bool) {
		for leaves := 1; leaves <= 10; leaves++ {
			for size := 0; size <= leaves; size++ {
				if !yield(leaves, size) {
					return
				}
			}
		}
	}
}

// modelRound writes down a round as the chapter defines it.
func modelRound(leaves, size int) [][]int {
	if size == 0 {
		return [][]int{{}}
	}
	if size == leaves {
		return [][]int{list(0, 1, 2, 3, 4, 5, 6, 7, 8, 9)[:leaves]}
	}
	found := modelRound(leaves-1, size)
	with := modelRound(leaves-1, size-1)
	slices.Reverse(with)
	for _, b := range with {
		found = append(found, append(slices.Clone(b), leaves-1))
	}
	return found
}

// modelChoose returns how many choices of so many leaves there are.
func modelChoose(leaves, size int) int {
	number := 1
	for i := range size {
		number = number * (leaves - i) / (i + 1)
	}
	return number
}

func modelCheck(leaves int, b []int) api.Errno {
	if leaves < 1 || leaves > 10 {
		return api.ErrRange
	}
	for i, leaf := range b {
		if leaf < 0 || leaf > leaves-1 {
			return api.ErrNone
		}
		if i > 0 && leaf <= b[i-1] {
			return api.ErrOrder
		}
	}
	return api.OK
}

// modelAway counts the leaves of a that are not in b.
func modelAway(a, b []int) int {
	number := 0
	for _, leaf := range a {
		if !slices.Contains(b, leaf) {
			number++
		}
	}
	return number
}

// modelWay exchanges leaves until the blend is b.
func modelWay(a, b []int) [][]int {
	l := slices.Clone(a)
	way := [][]int{slices.Clone(l)}
	for !slices.Equal(l, b) {
		out := slices.IndexFunc(l, func(leaf int) bool { return !slices.Contains(b, leaf) })
		in := slices.IndexFunc(b, func(leaf int) bool { return !slices.Contains(l, leaf) })
		l = append(slices.Delete(l, out, out+1), b[in])
		slices.Sort(l)
		way = append(way, slices.Clone(l))
	}
	return way
}

func modelWeight(r blend.Recipe, b []int) int {
	sum := 0
	for leaf, weight := range r.Weights {
		if slices.Contains(b, leaf) {
			sum += weight
		}
	}
	return sum
}

// modelFitting returns all blends of a size that fit, in ascending order.
func modelFitting(r blend.Recipe, size int) [][]int {
	return slices.DeleteFunc(blends(len(r.Weights), size), func(b []int) bool {
		w := modelWeight(r, b)
		return w < r.Low || w > r.High
	})
}

func modelNearest(r blend.Recipe, b []int) ([]int, api.Errno) {
	for far := range 11 {
		for _, other := range modelFitting(r, len(b)) {
			if modelAway(b, other) == far {
				return other, api.OK
			}
		}
	}
	return nil, api.ErrLost
}

func modelReach(r blend.Recipe, b []int, changes int) (low, high int) {
	low, high = math.MaxInt, math.MinInt
	for _, other := range blends(len(r.Weights), len(b)) {
		if modelAway(b, other) <= changes {
			low, high = min(low, modelWeight(r, other)), max(high, modelWeight(r, other))
		}
	}
	return low, high
}

// bounds returns bounds for blends of a size: narrow and wide ones, extreme ones, and some that no blend fits.
func bounds(weights []int, size int, next func(int) int) [][2]int {
	b := list(0, 1, 2, 3, 4, 5, 6, 7, 8, 9)[:len(weights)]
	for range len(b) - size {
		i := next(len(b))
		b = slices.Delete(b, i, i+1)
	}
	w := modelWeight(blend.Recipe{Weights: weights}, b)
	return [][2]int{
		{w, w}, {w - next(4), w + next(4)}, {w + 1 + next(3), w + 3 + next(20)}, {w - 20 - next(20), w - 1},
		{math.MinInt, math.MaxInt}, {w, math.MaxInt}, {math.MinInt, w}, {math.MaxInt, math.MaxInt}, {-5, -1}, {501, 600},
	}
}

// A sample is a recipe with a blend.
type sample struct {
	r blend.Recipe
	b []int
}

// samples gives recipes of each number of leaves, with weights of several kinds and bounds for a blend of each size.
func samples() iter.Seq[sample] {
	return func(yield func(sample) bool) {
		next := dice(19)
		for leaves, size := range sizes() {
			for kind := range 3 {
				weights := make([]int, leaves)
				for i := range weights {
					weights[i] = next(list(51, 6, 2)[kind])
				}
				all := blends(leaves, size)
				for _, l := range bounds(weights, size, next) {
					b := all[next(len(all))]
					if !yield(sample{blend.Recipe{Weights: weights, Low: l[0], High: l[1]}, b}) {
						return
					}
				}
			}
		}
	}
}

// An input has all that calls may take.
type input struct {
	leaves int
	r      blend.Recipe
	a, b   []int
	number int // a size, a number or changes
	size   int
}

// A call takes what it needs of an input; it has lists as its result, none if there are only zero values.
type call struct {
	name string
	many int // how many blends it has
	run  func(x input) ([][]int, api.Errno)
}

// noted returns numbers as a result.
func noted(e api.Errno, numbers ...int) ([][]int, api.Errno) {
	if slices.Max(numbers) == 0 && slices.Min(numbers) == 0 {
		return nil, e
	}
	return [][]int{numbers}, e
}

// listed returns a list as a result.
func listed(l []int, e api.Errno) ([][]int, api.Errno) {
	if len(l) == 0 {
		return nil, e
	}
	return [][]int{l}, e
}

// callsOfBlends are the calls that have blends and a number of leaves.
func callsOfBlends() []call {
	return []call{
		{"Check", 1, func(x input) ([][]int, api.Errno) { return nil, blend.Check(x.leaves, x.a) }},
		{"Number", 1, func(x input) ([][]int, api.Errno) {
			n, e := blend.Number(x.leaves, x.a)
			return noted(e, n)
		}},
		{"Next", 1, func(x input) ([][]int, api.Errno) {
			l, out, in, e := blend.Next(x.leaves, x.a)
			r, _ := noted(e, out, in)
			if len(l) > 0 {
				r = append(r, l)
			}
			return r, e
		}},
		{"Away", 2, func(x input) ([][]int, api.Errno) {
			n, e := blend.Away(x.leaves, x.a, x.b)
			return noted(e, n)
		}},
		{"Way", 2, func(x input) ([][]int, api.Errno) { return blend.Way(x.leaves, x.a, x.b) }},
	}
}

// callsOfSizes are the calls that have a size and a number of leaves.
func callsOfSizes() []call {
	return []call{
		{"Count", 0, func(x input) ([][]int, api.Errno) {
			n, e := blend.Count(x.leaves, x.size)
			return noted(e, n)
		}},
		{"Nth", 0, func(x input) ([][]int, api.Errno) { return listed(blend.Nth(x.leaves, x.size, x.number)) }},
	}
}

// callsOfRecipes are the calls that have a recipe.
func callsOfRecipes() []call {
	return []call{
		{"CheckRecipe", 0, func(x input) ([][]int, api.Errno) { return nil, blend.CheckRecipe(x.r) }},
		{"Fits", 0, func(x input) ([][]int, api.Errno) {
			n, e := blend.Fits(x.r, x.size)
			return noted(e, n)
		}},
		{"Weight", 1, func(x input) ([][]int, api.Errno) {
			n, e := blend.Weight(x.r, x.a)
			return noted(e, n)
		}},
		{"Nearest", 1, func(x input) ([][]int, api.Errno) { return listed(blend.Nearest(x.r, x.a)) }},
		{"Reach", 1, func(x input) ([][]int, api.Errno) {
			low, high, e := blend.Reach(x.r, x.a, x.number)
			return noted(e, low, high)
		}},
	}
}

// calls are all calls.
func calls() []call {
	return slices.Concat(callsOfBlends(), callsOfSizes(), callsOfRecipes())
}

// same returns whether two results are equal.
func same(r, s [][]int) bool {
	return slices.EqualFunc(r, s, slices.Equal[[]int])
}

// wantError fails if a call does not just return an error.
func wantError(t *testing.T, c call, x input, want api.Errno) {
	t.Helper()
	if r, e := c.run(x); len(r) != 0 || e != want {
		t.Errorf("%s of %v: %v %d, want error %d only", c.name, x, r, e, want)
	}
}
