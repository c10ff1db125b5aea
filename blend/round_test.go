package blend_test

import (
	"math"
	"slices"
	"testing"

	"vitola/api"
	"vitola/blend"
)

// P4.2: Nth and Number follow the round of the chapter.
func TestRound(t *testing.T) {
	for leaves, size := range sizes() {
		for number, b := range modelRound(leaves, size) {
			l, e := blend.Nth(leaves, size, number)
			if !slices.Equal(l, b) || e != api.OK {
				t.Fatalf("Nth of %d, %d: %d: %v %d, want %v", leaves, size, number, l, e, b)
			}
			n, e := blend.Number(leaves, b)
			if n != number || e != api.OK {
				t.Fatalf("Number of %d: %v: %d %d, want %d", leaves, b, n, e, number)
			}
		}
	}
}

// P4.2: Nth has no blends before the first one and behind the last one.
func TestNoSuchNumber(t *testing.T) {
	for leaves, size := range sizes() {
		many := len(blends(leaves, size))
		for _, number := range list(-1, many, many+1, math.MaxInt, math.MinInt, 1<<32) {
			if l, e := blend.Nth(leaves, size, number); len(l) != 0 || e != api.ErrNone {
				t.Errorf("Nth of %d, %d: %d: %v %d, want ErrNone", leaves, size, number, l, e)
			}
		}
	}
}

// P4.3: Next returns the next blend of the round, after the last one the first one, and what was exchanged.
func TestNext(t *testing.T) {
	for leaves, size := range sizes() {
		round := modelRound(leaves, size)
		for i, b := range round {
			next, out, in, e := blend.Next(leaves, b)
			if len(round) == 1 {
				if len(next) != 0 || out != 0 || in != 0 || e != api.ErrLost {
					t.Errorf("Next of %d: %v: %v %d %d %d, want ErrLost", leaves, b, next, out, in, e)
				}
				continue
			}
			want := round[(i+1)%len(round)]
			if !slices.Equal(next, want) || e != api.OK {
				t.Fatalf("Next of %d: %v: %v %d, want %v", leaves, b, next, e, want)
			}
			if !slices.Contains(b, out) || slices.Contains(next, out) {
				t.Fatalf("Next of %d: %v: %v, but %d went out", leaves, b, next, out)
			}
			if slices.Contains(b, in) || !slices.Contains(next, in) {
				t.Fatalf("Next of %d: %v: %v, but %d came in", leaves, b, next, in)
			}
		}
	}
}

// P4.3: there is no other blend just if none or all of the leaves are in it.
func TestNoOther(t *testing.T) {
	for leaves, size := range sizes() {
		_, _, _, e := blend.Next(leaves, blends(leaves, size)[0])
		if alone := size == 0 || size == leaves; alone != (e == api.ErrLost) || !alone && e != api.OK {
			t.Errorf("Next of %d, size %d: %d", leaves, size, e)
		}
	}
}

// P4.8: Next leads through each blend of the size just once, with one exchange each time, and back.
func TestRevolvingDoor(t *testing.T) {
	for leaves, size := range sizes() {
		first, _ := blend.Nth(leaves, size, 0)
		var found [][]int
		many, _ := blend.Count(leaves, size)
		for b := first; len(found) < many; {
			found = append(found, b)
			if many == 1 {
				break
			}
			next, out, in, e := blend.Next(leaves, b)
			with := append(slices.DeleteFunc(slices.Clone(b), func(leaf int) bool { return leaf == out }), in)
			slices.Sort(with)
			if !slices.Equal(next, with) || len(next) != size || e != api.OK || out == in {
				t.Fatalf("Next of %d: %v: %v %d %d %d", leaves, b, next, out, in, e)
			}
			if n, _ := blend.Away(leaves, b, next); n != 1 {
				t.Fatalf("Away of %d: %v, %v: %d", leaves, b, next, n)
			}
			b = next
			if len(found) == many && !slices.Equal(b, first) {
				t.Fatalf("Next of %d: %v leads to %v, not to the first one", leaves, found[many-1], b)
			}
		}
		slices.SortFunc(found, slices.Compare[[]int])
		if all := blends(leaves, size); !same(found, all) {
			t.Fatalf("the round of %d, %d has %v, want %v", leaves, size, found, all)
		}
	}
}

// P4.9: Number and Nth are the inverse of each other.
func TestThereAndBack(t *testing.T) {
	for leaves, size := range sizes() {
		many, _ := blend.Count(leaves, size)
		for number := range many {
			b, _ := blend.Nth(leaves, size, number)
			if n, e := blend.Number(leaves, b); n != number || e != api.OK {
				t.Fatalf("Number of %d: %v: %d %d, but it is Nth of %d", leaves, b, n, e, number)
			}
		}
		for _, b := range blends(leaves, size) {
			n, _ := blend.Number(leaves, b)
			if l, e := blend.Nth(leaves, size, n); !slices.Equal(l, b) || e != api.OK {
				t.Fatalf("Nth of %d, %d: %d: %v %d, but it is Number of %v", leaves, size, n, l, e, b)
			}
		}
	}
}

// P4.9: with more leaves a blend has the same number.
func TestMoreLeaves(t *testing.T) {
	for leaves, size := range sizes() {
		for _, b := range blends(leaves, size) {
			n, _ := blend.Number(leaves, b)
			for more := leaves + 1; more <= 10; more++ {
				if m, e := blend.Number(more, b); m != n || e != api.OK {
					t.Fatalf("Number of %v: %d of %d leaves, %d %d of %d", b, n, leaves, m, e, more)
				}
			}
		}
	}
}
