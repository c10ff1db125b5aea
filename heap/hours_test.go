package heap_test

import (
	"math"
	"slices"
	"testing"

	"vitola/api"
	"vitola/heap"
)

// P2.6: Hours returns the first of the shortest lists.
func TestHours(t *testing.T) {
	for l := range inputs() {
		want := modelHours(l)
		if hours, e := heap.Hours(l); !slices.Equal(hours, want) || e != api.OK {
			t.Fatalf("Hours of %v: %v %d, want %v", l, hours, e, want)
		}
	}
	for _, x := range []struct {
		heaps []heap.Heap
		want  []int
	}{
		{heaps(0, 23), list(0)},
		{heaps(23, 23, 0, 0), list(0, 23)},
		{heaps(5, 23, 0, 20), list(5)},
		{heaps(0, 0, 1, 1, 2, 2, 3, 3, 4, 4, 19, 19, 20, 20, 21, 21, 22, 22, 23, 23), list(0, 1, 2, 3, 4, 19, 20, 21, 22, 23)},
		{heaps(0, 9, 12, 20, 15, 23), list(0, 15)},
	} {
		if hours, e := heap.Hours(x.heaps); !slices.Equal(hours, x.want) || e != api.OK {
			t.Errorf("Hours of %v: %v %d, want %v", x.heaps, hours, e, x.want)
		}
	}
}

// P2.6: Meets for all lists of some hours.
func TestMeets(t *testing.T) {
	for l := range small() {
		for many := range 5 {
			for hours := range choices(4, many) {
				want := api.OK
				if !modelMeets(l, hours) {
					want = api.ErrProof
				}
				if e := heap.Meets(l, hours); e != want {
					t.Fatalf("Meets of %v, %v: %d, want %d", l, hours, e, want)
				}
			}
		}
	}
}

// P2.6: the errors of Meets, in their order.
func TestMeetsErrors(t *testing.T) {
	all := make([]int, 24)
	for i := range all {
		all[i] = i
	}
	for _, x := range []struct {
		heaps []heap.Heap
		hours []int
		want  api.Errno
	}{
		{nil, nil, api.OK},
		{nil, list(5), api.OK},
		{nil, list(5, 5), api.ErrOrder},
		{nil, list(5, 24), api.ErrRange},
		{yard(), all, api.OK},
		{yard(), append(all, 24), api.ErrRange},
		{yard(), append(all, 23), api.ErrOrder},
		{yard(), nil, api.ErrProof},
		{yard(), list(0, 1), api.ErrProof},
		{yard(), list(-1, 0, 1, 4), api.ErrRange},
		{yard(), list(0, 1, 4, 24), api.ErrRange},
		{yard(), list(24, 0), api.ErrRange},
		{yard(), list(0, -1), api.ErrRange},
		{yard(), list(1, 0, 24), api.ErrOrder},
		{yard(), list(0, 1, 4, 3), api.ErrOrder},
		{yard(), list(2, 2), api.ErrOrder},
		{yard(), list(3), api.ErrProof},
		{yard(), list(math.MaxInt), api.ErrRange},
		{yard(), list(math.MinInt), api.ErrRange},
		{yard(), make([]int, 1_000_000), api.ErrOrder},
	} {
		if e := heap.Meets(x.heaps, x.hours); e != x.want {
			t.Errorf("Meets of %v, %d hours: %d, want %d", x.heaps, len(x.hours), e, x.want)
		}
	}
}

// P2.7: Apart returns the first of the largest choices.
func TestApart(t *testing.T) {
	for l := range inputs() {
		want := largest(l, modelApart)
		if a, e := heap.Apart(l); !slices.Equal(a, want) || e != api.OK {
			t.Fatalf("Apart of %v: %v %d, want %v", l, a, e, want)
		}
	}
	for _, x := range []struct {
		heaps []heap.Heap
		want  []int
	}{
		{heaps(0, 23), list(0)},
		{heaps(0, 23, 0, 11, 12, 23), list(1, 2)},
		{heaps(0, 5, 5, 9), list(0)},
		{heaps(0, 4, 5, 9), list(0, 1)},
		{heaps(9, 9, 8, 8, 7, 7, 6, 6, 5, 5, 4, 4, 3, 3, 2, 2, 1, 1, 0, 0), list(0, 1, 2, 3, 4, 5, 6, 7, 8, 9)},
		{slices.Repeat(heaps(0, 23), 10), list(0)},
	} {
		if a, e := heap.Apart(x.heaps); !slices.Equal(a, x.want) || e != api.OK {
			t.Errorf("Apart of %v: %v %d, want %v", x.heaps, a, e, x.want)
		}
	}
}
