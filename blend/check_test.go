package blend_test

import (
	"math"
	"slices"
	"testing"

	"vitola/api"
	"vitola/blend"
)

// wrong are lists that are no blends of so many leaves.
func wrong() []struct {
	leaves int
	b      []int
	want   api.Errno
} {
	return []struct {
		leaves int
		b      []int
		want   api.Errno
	}{
		{0, nil, api.ErrRange},
		{0, list(0), api.ErrRange},
		{-1, nil, api.ErrRange},
		{11, nil, api.ErrRange},
		{11, list(10), api.ErrRange},
		{0, list(1, 0), api.ErrRange},
		{math.MaxInt, list(3), api.ErrRange},
		{math.MinInt, list(-1), api.ErrRange},
		{1<<32 + 4, list(0), api.ErrRange},
		{1, list(1), api.ErrNone},
		{4, list(4), api.ErrNone},
		{4, list(-1), api.ErrNone},
		{4, list(0, 4), api.ErrNone},
		{4, list(0, 1, 2, 3, 4), api.ErrNone},
		{10, list(10), api.ErrNone},
		{10, list(math.MinInt), api.ErrNone},
		{10, list(0, math.MaxInt), api.ErrNone},
		{4, list(2, -1), api.ErrNone},
		{4, list(3, 4, 1), api.ErrNone},
		{4, list(1<<32 + 2), api.ErrNone},
		{4, list(0, 0), api.ErrOrder},
		{4, list(1, 0), api.ErrOrder},
		{4, list(0, 1, 1), api.ErrOrder},
		{4, list(0, 2, 1, 3), api.ErrOrder},
		{4, list(2, 1, 9), api.ErrOrder},
		{4, list(3, 0, -1), api.ErrOrder},
		{4, list(0, 3, 0), api.ErrOrder},
		{10, list(9, 8), api.ErrOrder},
		{10, make([]int, 1_000_000), api.ErrOrder},
		{1, list(0, 0), api.ErrOrder},
		{1, list(0, 1), api.ErrNone},
	}
}

// P4.1: errors of Check, in their order.
func TestCheck(t *testing.T) {
	if blend.MaxLeaves != 10 || blend.MaxWeight != 50 {
		t.Fatalf("MaxLeaves %d, MaxWeight %d", blend.MaxLeaves, blend.MaxWeight)
	}
	for _, x := range wrong() {
		if e := blend.Check(x.leaves, x.b); e != x.want {
			t.Errorf("Check of %d, %v: %d, want %d", x.leaves, x.b[:min(len(x.b), 9)], e, x.want)
		}
	}
	for leaves := -1; leaves <= 12; leaves++ {
		for first := -1; first <= 11; first++ {
			for second := -1; second <= 11; second++ {
				for _, b := range [][]int{list(first), list(first, second), list(first, second, 5)} {
					if e := blend.Check(leaves, b); e != modelCheck(leaves, b) {
						t.Fatalf("Check of %d, %v: %d", leaves, b, e)
					}
				}
			}
		}
	}
	for leaves, size := range sizes() {
		for _, b := range blends(leaves, size) {
			if e := blend.Check(leaves, b); e != api.OK {
				t.Fatalf("Check of %d, %v: %d", leaves, b, e)
			}
		}
	}
}

// P4.2, P4.3, P4.4: the error of Check comes before any other one, for a, then for b.
func TestErrorOfCheckFirst(t *testing.T) {
	for _, c := range callsOfBlends() {
		for _, x := range wrong() {
			for _, y := range [][]int{nil, list(0), list(0, 0), list(20), list(0, 1, 2, 3)} {
				wantError(t, c, input{leaves: x.leaves, a: x.b, b: y}, x.want)
			}
			if c.many < 2 {
				continue
			}
			for _, y := range [][]int{nil, list(0)} {
				wantError(t, c, input{leaves: x.leaves, a: y, b: x.b}, x.want)
			}
		}
		if c.many > 1 {
			wantError(t, c, input{leaves: 4, a: list(2, 1), b: list(4)}, api.ErrOrder)
			wantError(t, c, input{leaves: 4, a: list(4), b: list(2, 1)}, api.ErrNone)
		}
	}
}

// P4.4: the blends must have the same size.
func TestShape(t *testing.T) {
	for _, c := range callsOfBlends() {
		if c.many < 2 {
			continue
		}
		for leaves := 1; leaves <= 10; leaves++ {
			for first := range leaves + 1 {
				for second := range leaves + 1 {
					x := input{leaves: leaves, a: blends(leaves, first)[0], b: blends(leaves, second)[0]}
					if first != second {
						wantError(t, c, x, api.ErrShape)
					} else if _, e := c.run(x); e != api.OK {
						t.Errorf("%s of %v: %d", c.name, x, e)
					}
				}
			}
		}
	}
}

// P4.1: Count of each size, and of what is none; P4.2: Nth has the same error.
func TestCount(t *testing.T) {
	for leaves := -2; leaves <= 13; leaves++ {
		for size := -2; size <= 13; size++ {
			n, e := blend.Count(leaves, size)
			if 1 <= leaves && leaves <= 10 && 0 <= size && size <= leaves {
				if n != modelChoose(leaves, size) || n != len(blends(leaves, size)) || e != api.OK {
					t.Errorf("Count of %d, %d: %d %d", leaves, size, n, e)
				}
				continue
			}
			for _, c := range callsOfSizes() {
				for _, number := range list(0, 1, -1, math.MaxInt) {
					wantError(t, c, input{leaves: leaves, size: size, number: number}, api.ErrRange)
				}
			}
		}
	}
	for _, c := range callsOfSizes() {
		for _, n := range list(math.MaxInt, math.MinInt, 1<<32+4) {
			wantError(t, c, input{leaves: n, size: 1}, api.ErrRange)
			wantError(t, c, input{leaves: 4, size: n}, api.ErrRange)
			wantError(t, c, input{leaves: n, size: n}, api.ErrRange)
		}
	}
}

// wrongRecipes are recipes that are none.
func wrongRecipes() []struct {
	r    blend.Recipe
	want api.Errno
} {
	long := make([]int, 11)
	long[3] = 51
	return []struct {
		r    blend.Recipe
		want api.Errno
	}{
		{blend.Recipe{}, api.ErrEmpty},
		{blend.Recipe{Weights: list(), Low: 1}, api.ErrEmpty},
		{blend.Recipe{Weights: make([]int, 11)}, api.ErrMany},
		{blend.Recipe{Weights: long, Low: 1}, api.ErrMany},
		{blend.Recipe{Weights: make([]int, 1_000_000)}, api.ErrMany},
		{blend.Recipe{Weights: list(51)}, api.ErrRange},
		{blend.Recipe{Weights: list(-1)}, api.ErrRange},
		{blend.Recipe{Weights: list(0, 50, 51), High: 9}, api.ErrRange},
		{blend.Recipe{Weights: list(0, -1), Low: 1}, api.ErrRange},
		{blend.Recipe{Weights: list(math.MaxInt)}, api.ErrRange},
		{blend.Recipe{Weights: list(1, math.MinInt)}, api.ErrRange},
		{blend.Recipe{Weights: list(1), Low: 1}, api.ErrOrder},
		{blend.Recipe{Weights: list(1), High: -1}, api.ErrOrder},
		{blend.Recipe{Weights: list(0, 50), Low: math.MaxInt, High: math.MinInt}, api.ErrOrder},
		{blend.Recipe{Weights: make([]int, 10), Low: 14, High: 12}, api.ErrOrder},
	}
}

// P4.5: errors of CheckRecipe, in their order; the other functions of a recipe have them first.
func TestCheckRecipe(t *testing.T) {
	for _, c := range callsOfRecipes() {
		for _, x := range wrongRecipes() {
			for _, b := range [][]int{nil, list(0), list(-1), list(1, 0), list(10)} {
				for _, n := range list(0, 1, -1, 11) {
					wantError(t, c, input{r: x.r, a: b, size: n, number: n}, x.want)
				}
			}
		}
	}
	for _, r := range []blend.Recipe{
		recipe(),
		{Weights: list(0)},
		{Weights: list(50), Low: 7, High: 7},
		{Weights: slices.Repeat(list(50), 10), Low: math.MinInt, High: math.MaxInt},
		{Weights: list(0, 50), Low: math.MaxInt, High: math.MaxInt},
		{Weights: list(0, 50), Low: math.MinInt, High: math.MinInt},
		{Weights: list(0, 50), Low: -3, High: -2},
	} {
		if e := blend.CheckRecipe(r); e != api.OK {
			t.Errorf("CheckRecipe of %v: %d", r, e)
		}
	}
}

// P4.5: after that of the recipe comes the error of Check, with as many leaves as weights, and then that of other numbers.
func TestRecipeWithBlend(t *testing.T) {
	for _, c := range callsOfRecipes() {
		if c.many == 0 {
			continue
		}
		for _, x := range wrong() {
			if x.leaves < 1 || x.leaves > 10 {
				continue
			}
			for _, n := range list(0, -1, 11) {
				r := blend.Recipe{Weights: make([]int, x.leaves), High: 1}
				wantError(t, c, input{leaves: 10, r: r, a: x.b, number: n}, x.want)
			}
		}
	}
	for s := range samples() {
		for _, n := range list(-1, 11, 12, math.MaxInt, math.MinInt) {
			if low, high, e := blend.Reach(s.r, s.b, n); low != 0 || high != 0 || e != api.ErrRange {
				t.Fatalf("Reach of %v, %v, %d: %d %d %d", s.r, s.b, n, low, high, e)
			}
			size := n
			if n > 0 {
				size = max(n-11, 0) + len(s.r.Weights) + 1
			}
			if many, e := blend.Fits(s.r, size); many != 0 || e != api.ErrRange {
				t.Fatalf("Fits of %v, %d: %d %d", s.r, size, many, e)
			}
		}
	}
}

// P1: each call ends with the extreme numbers, and has the same result the second time.
func TestSameAgain(t *testing.T) {
	numbers := list(0, 1, 3, 9, 10, 11, -1, math.MaxInt, math.MinInt)
	some := [][]int{nil, list(0, 1), list(1, 3, 4), list(0, 1, 2, 3, 4, 5, 6, 7, 8, 9), make([]int, 12)}
	for _, n := range numbers {
		some = append(some, list(n), list(0, n))
	}
	for _, c := range calls() {
		for _, n := range numbers {
			for _, m := range list(0, 1, 4, 10, math.MinInt) {
				for _, a := range some {
					for _, b := range some {
						x := input{leaves: m, a: a, b: b, number: n, size: n, r: blend.Recipe{Weights: b, Low: n, High: math.MaxInt}}
						checkAgain(t, c, x)
						x.size, x.r.Low, x.r.High = m, math.MinInt, n
						checkAgain(t, c, x)
					}
				}
			}
		}
	}
}

func checkAgain(t *testing.T, c call, x input) {
	t.Helper()
	r, e := c.run(x)
	if s, f := c.run(x); !same(r, s) || e != f {
		t.Fatalf("%s of %v: %v %d, then %v %d", c.name, x, r, e, s, f)
	}
	if e != api.OK && len(r) != 0 {
		t.Fatalf("%s of %v: %v with the error %d", c.name, x, r, e)
	}
}
