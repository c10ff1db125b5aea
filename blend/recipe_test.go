package blend_test

import (
	"math"
	"slices"
	"testing"

	"vitola/api"
	"vitola/blend"
)

// P4.5: Weight of all blends.
func TestWeight(t *testing.T) {
	for s := range samples() {
		for _, b := range blends(len(s.r.Weights), len(s.b)) {
			if w, e := blend.Weight(s.r, b); w != modelWeight(s.r, b) || e != api.OK {
				t.Fatalf("Weight of %v, %v: %d %d", s.r, b, w, e)
			}
		}
	}
	heaviest := blend.Recipe{Weights: slices.Repeat(list(50), 10)}
	if w, e := blend.Weight(heaviest, list(0, 1, 2, 3, 4, 5, 6, 7, 8, 9)); w != 500 || e != api.OK {
		t.Errorf("Weight of ten leaves of 50: %d %d", w, e)
	}
}

// P4.6: Fits of each size.
func TestFits(t *testing.T) {
	for s := range samples() {
		for size := range len(s.r.Weights) + 1 {
			if n, e := blend.Fits(s.r, size); n != len(modelFitting(s.r, size)) || e != api.OK {
				t.Fatalf("Fits of %v, %d: %d %d", s.r, size, n, e)
			}
		}
	}
}

// P4.6: Nearest is the first of the nearest blends that fit.
func TestNearest(t *testing.T) {
	for s := range samples() {
		b, e := blend.Nearest(s.r, s.b)
		if want, f := modelNearest(s.r, s.b); !slices.Equal(b, want) || e != f {
			t.Fatalf("Nearest of %v, %v: %v %d, want %v %d", s.r, s.b, b, e, want, f)
		}
		if n, _ := blend.Fits(s.r, len(s.b)); (n == 0) != (e == api.ErrLost) {
			t.Fatalf("Nearest of %v, %v: %v %d, but %d fit", s.r, s.b, b, e, n)
		}
	}
}

// P4.6: of blends that are equally near the first one is the smallest list, not the one with the smallest number.
func TestNearestIsSmallest(t *testing.T) {
	// In the round 1 2 comes before 0 2, and 1 3 before 0 3.
	for _, x := range []struct {
		weights []int
		b, want []int
	}{
		{list(1, 1, 1, 0), list(2, 3), list(0, 2)},
		{list(1, 1, 0, 1), list(2, 3), list(0, 3)},
		{list(2, 2, 0, 5), list(2, 3), list(0, 2)},
		{list(2, 2, 0, 5), list(1, 3), list(1, 2)},
		{list(1, 1, 1, 1), list(2, 3), list(2, 3)},
	} {
		r := blend.Recipe{Weights: x.weights, Low: 2, High: 2}
		if b, e := blend.Nearest(r, x.b); !slices.Equal(b, x.want) || e != api.OK {
			t.Errorf("Nearest of %v, %v: %v %d, want %v", r, x.b, b, e, x.want)
		}
	}
}

// P4.7: Reach with each number of changes.
func TestReach(t *testing.T) {
	for s := range samples() {
		for changes := range 11 {
			low, high, e := blend.Reach(s.r, s.b, changes)
			if l, h := modelReach(s.r, s.b, changes); low != l || high != h || e != api.OK {
				t.Fatalf("Reach of %v, %v, %d: %d %d %d, want %d %d", s.r, s.b, changes, low, high, e, l, h)
			}
		}
	}
}

// P4.7: more changes reach as much at least, none only the blend itself, and the bounds are of no matter.
func TestMoreChanges(t *testing.T) {
	for s := range samples() {
		w, _ := blend.Weight(s.r, s.b)
		low, high, _ := blend.Reach(s.r, s.b, 0)
		if low != w || high != w {
			t.Fatalf("Reach of %v, %v with none: %d %d", s.r, s.b, low, high)
		}
		other := blend.Recipe{Weights: s.r.Weights, Low: -7, High: -7}
		for changes := range 11 {
			l, h, _ := blend.Reach(s.r, s.b, changes)
			if l > low || h < high {
				t.Fatalf("Reach of %v, %v, %d: %d %d, with fewer %d %d", s.r, s.b, changes, l, h, low, high)
			}
			low, high = l, h
			if l, h, _ := blend.Reach(other, s.b, changes); l != low || h != high {
				t.Fatalf("Reach of %v, %v, %d: %d %d, with other bounds %d %d", s.r, s.b, changes, low, high, l, h)
			}
		}
	}
}

// far returns the distance of Nearest, or a greater one than any if there is none.
func far(t *testing.T, r blend.Recipe, b []int) int {
	t.Helper()
	near, e := blend.Nearest(r, b)
	if e == api.ErrLost {
		return 11
	}
	n, f := blend.Away(len(r.Weights), b, near)
	if e != api.OK || f != api.OK {
		t.Fatalf("Nearest of %v, %v: %v %d, Away of it: %d", r, b, near, e, f)
	}
	return n
}

// P4.11: if the bounds do not meet what Reach returns, Nearest is farther away.
func TestReason(t *testing.T) {
	proofs := 0
	for s := range samples() {
		n := far(t, s.r, s.b)
		for changes := range 11 {
			low, high, _ := blend.Reach(s.r, s.b, changes)
			if high >= s.r.Low && low <= s.r.High {
				continue
			}
			proofs++
			if n <= changes {
				t.Fatalf("Nearest of %v, %v is %d away, but Reach with %d: %d %d", s.r, s.b, n, changes, low, high)
			}
			for _, b := range modelFitting(s.r, len(s.b)) {
				if m, _ := blend.Away(len(s.r.Weights), s.b, b); m <= changes {
					t.Fatalf("%v: %v is %d away from %v, but Reach with %d: %d %d", s.r, b, m, s.b, changes, low, high)
				}
			}
		}
	}
	if proofs < 1000 {
		t.Errorf("only %d times the bounds do not meet", proofs)
	}
}

// mixed returns numbers below a bound in some order.
func mixed(below int, next func(int) int) []int {
	var names []int
	for i := range below {
		names = slices.Insert(names, next(i+1), i)
	}
	return names
}

// renamed returns a blend with other numbers for its leaves.
func renamed(b, names []int) []int {
	other := make([]int, len(b))
	for i, leaf := range b {
		other[i] = names[leaf]
	}
	slices.Sort(other)
	return other
}

// P4.12: if leaves get other numbers, and weights go with them, the measures stay.
func TestNames(t *testing.T) {
	next := dice(23)
	for s := range samples() {
		leaves := len(s.r.Weights)
		names := mixed(leaves, next)
		r := blend.Recipe{Weights: make([]int, leaves), Low: s.r.Low, High: s.r.High}
		for leaf, name := range names {
			r.Weights[name] = s.r.Weights[leaf]
		}
		b := renamed(s.b, names)
		v, _ := blend.Weight(s.r, s.b)
		if w, e := blend.Weight(r, b); w != v || e != api.OK {
			t.Fatalf("Weight of %v, %v: %d, with the names %v: %d %d", s.r, s.b, v, names, w, e)
		}
		m, _ := blend.Fits(s.r, len(s.b))
		if n, e := blend.Fits(r, len(b)); n != m || e != api.OK {
			t.Fatalf("Fits of %v, %d: %d, with the names %v: %d %d", s.r, len(b), m, names, n, e)
		}
		if m, n := far(t, s.r, s.b), far(t, r, b); m != n {
			t.Fatalf("Nearest of %v, %v is %d away, with the names %v: %d", s.r, s.b, m, names, n)
		}
		for changes := range 11 {
			low, high, _ := blend.Reach(s.r, s.b, changes)
			if l, h, e := blend.Reach(r, b, changes); l != low || h != high || e != api.OK {
				t.Fatalf("Reach of %v, %v, %d: %d %d, with the names %v: %d %d %d", s.r, s.b, changes, low, high, names, l, h, e)
			}
		}
		for _, x := range blends(leaves, len(s.b)) {
			m, _ := blend.Away(leaves, s.b, x)
			if n, e := blend.Away(leaves, b, renamed(x, names)); m != n || e != api.OK {
				t.Fatalf("Away of %v, %v: %d, with the names %v: %d %d", s.b, x, m, names, n, e)
			}
		}
	}
}

// less and more return a smaller and a greater bound, if there is one.
func less(n, by int) int {
	if n < math.MinInt+by {
		return n
	}
	return n - by
}

func more(n, by int) int {
	if n > math.MaxInt-by {
		return n
	}
	return n + by
}

// P4.13: with wider bounds Nearest is not farther away, and Fits not smaller.
func TestWiderBounds(t *testing.T) {
	for s := range samples() {
		n := far(t, s.r, s.b)
		many, _ := blend.Fits(s.r, len(s.b))
		for by := range 12 {
			for _, l := range [][2]int{{less(s.r.Low, by), s.r.High}, {s.r.Low, more(s.r.High, by)}, {less(s.r.Low, by), more(s.r.High, 5*by)}} {
				wider := blend.Recipe{Weights: s.r.Weights, Low: l[0], High: l[1]}
				if m := far(t, wider, s.b); m > n {
					t.Fatalf("Nearest of %v, %v is %d away, of %v %d", s.r, s.b, n, wider, m)
				}
				if m, e := blend.Fits(wider, len(s.b)); m < many || e != api.OK {
					t.Fatalf("Fits of %v, %d: %d, of %v: %d %d", s.r, len(s.b), many, wider, m, e)
				}
			}
		}
	}
}

// P4.13: what fits, what is below, and what is above, are all blends.
func TestBelowAndAbove(t *testing.T) {
	for s := range samples() {
		for size := range len(s.r.Weights) + 1 {
			sum, _ := blend.Fits(s.r, size)
			if s.r.Low > math.MinInt {
				n, _ := blend.Fits(blend.Recipe{Weights: s.r.Weights, Low: math.MinInt, High: s.r.Low - 1}, size)
				sum += n
			}
			if s.r.High < math.MaxInt {
				n, _ := blend.Fits(blend.Recipe{Weights: s.r.Weights, Low: s.r.High + 1, High: math.MaxInt}, size)
				sum += n
			}
			if many, _ := blend.Count(len(s.r.Weights), size); sum != many {
				t.Fatalf("Fits of %v, %d, with those below and above: %d, want %d", s.r, size, sum, many)
			}
		}
	}
}
