package heap_test

import (
	"fmt"
	"math"
	"slices"
	"testing"

	"vitola/api"
	"vitola/heap"
)

// wrong are lists of heaps with an error.
func wrong() []struct {
	heaps []heap.Heap
	want  api.Errno
} {
	return []struct {
		heaps []heap.Heap
		want  api.Errno
	}{
		{make([]heap.Heap, 11), api.ErrMany},
		{make([]heap.Heap, 1_000_000), api.ErrMany},
		{slices.Repeat(heaps(5, 1), 11), api.ErrMany},
		{slices.Repeat(heaps(-1, 24), 11), api.ErrMany},
		{heaps(-1, 2), api.ErrRange},
		{heaps(2, -1), api.ErrRange},
		{heaps(0, 24), api.ErrRange},
		{heaps(24, 0), api.ErrRange},
		{heaps(24, 24), api.ErrRange},
		{heaps(0, math.MaxInt), api.ErrRange},
		{heaps(math.MinInt, 0), api.ErrRange},
		{heaps(math.MaxInt, math.MinInt), api.ErrRange},
		{heaps(0, 1<<32), api.ErrRange},
		{heaps(1, 0), api.ErrOrder},
		{heaps(23, 22), api.ErrOrder},
		{heaps(0, 0, 3, 2, -1, 0), api.ErrOrder},
		{heaps(0, 0, 0, 24, 3, 2), api.ErrRange},
		{append(make([]heap.Heap, 9), heap.Heap{From: 1}), api.ErrOrder},
		{append(make([]heap.Heap, 9), heap.Heap{To: 24}), api.ErrRange},
	}
}

// P2.1: errors of Check, in their order.
func TestCheck(t *testing.T) {
	if heap.MaxHour != 23 || heap.MaxHeaps != 10 {
		t.Fatalf("MaxHour %d, MaxHeaps %d", heap.MaxHour, heap.MaxHeaps)
	}
	for _, x := range wrong() {
		if e := heap.Check(x.heaps); e != x.want {
			t.Errorf("Check of %d heaps: %d, want %d", len(x.heaps), e, x.want)
		}
	}
	for _, l := range [][]heap.Heap{nil, {}, heaps(0, 23), heaps(0, 0), heaps(23, 23), yard(), make([]heap.Heap, 10)} {
		if e := heap.Check(l); e != api.OK {
			t.Errorf("Check of %v: %d", l, e)
		}
	}
	edges := lists(2, list(-1, 0, 1, 22, 23, 24))
	for a := range edges {
		for b := range edges {
			l := heaps(append(a, b...)...)
			if e := heap.Check(l); e != modelCheck(l) {
				t.Errorf("Check of %v: %d, want %d", l, e, modelCheck(l))
			}
		}
	}
}

// P2.1: all other calls return the error of Check before any other one.
func TestErrorOfCheckFirst(t *testing.T) {
	for _, x := range wrong() {
		for _, c := range calls() {
			for _, n := range append(list(1, 10), wrongHands...) {
				for _, more := range [][]int{nil, list(0), list(24), list(1, 1), list(0, 0, -1)} {
					r, e := c.run(x.heaps, n, more)
					wantError(t, fmt.Sprintf("%s of %d heaps, %d, %v", c.name, len(x.heaps), n, more), r, e, x.want)
				}
			}
		}
	}
}

// P2.2 to P2.5: calls with hands refuse wrong ones, whatever else there is.
func TestWrongHands(t *testing.T) {
	for _, l := range [][]heap.Heap{nil, yard(), heaps(3, 3, 3, 3), make([]heap.Heap, 10)} {
		for _, hands := range wrongHands {
			for _, c := range callsOfHands() {
				for _, more := range [][]int{nil, list(0), list(24), list(3, 3), list(-1, -1)} {
					r, e := c.run(l, hands, more)
					wantError(t, fmt.Sprintf("%s of %v, %d, %v", c.name, l, hands, more), r, e, api.ErrRange)
				}
			}
		}
		for _, c := range callsOfHands() {
			for _, hands := range list(1, 10) {
				if _, e := c.run(l, hands, nil); e == api.ErrRange {
					t.Errorf("%s of %v, %d: ErrRange", c.name, l, hands)
				}
			}
		}
	}
}

// P2.1: Crowd for all spans.
func TestCrowd(t *testing.T) {
	for l := range inputs() {
		for from := range 24 {
			for to := range 24 {
				want, wantError := modelCrowd(l, from, to), api.OK
				if from > to {
					want, wantError = 0, api.ErrOrder
				}
				if n, e := heap.Crowd(l, from, to); n != want || e != wantError {
					t.Fatalf("Crowd of %v, %d, %d: %d %d, want %d %d", l, from, to, n, e, want, wantError)
				}
			}
		}
	}
}

// P2.1: Crowd refuses what is no hour, before the order of the hours.
func TestCrowdErrors(t *testing.T) {
	for _, hour := range list(-1, 24, 25, -24, math.MaxInt, math.MinInt, 1<<32) {
		for _, other := range append(list(0, 5, 23), hour) {
			for _, x := range [][2]int{{hour, other}, {other, hour}} {
				n, e := heap.Crowd(yard(), x[0], x[1])
				if n != 0 || e != api.ErrRange {
					t.Errorf("Crowd of Y, %d, %d: %d %d, want ErrRange", x[0], x[1], n, e)
				}
			}
		}
	}
}

// P1: each call ends with the extreme numbers, and has the same result the second time.
func TestSameAgain(t *testing.T) {
	numbers := list(0, 1, 2, 9, 10, 11, 23, 24, -1, math.MaxInt, math.MinInt)
	lots := [][]heap.Heap{nil, yard(), slices.Repeat(heaps(0, 23), 10), slices.Repeat(heaps(23, 23), 10)}
	for _, a := range numbers {
		for _, b := range numbers {
			lots = append(lots, heaps(a, b), heaps(3, 5, a, b))
		}
	}
	for _, l := range lots {
		for _, n := range numbers {
			for _, more := range [][]int{nil, list(n), list(3, n), list(n, n, n, n, n)} {
				for _, c := range calls() {
					r, e := c.run(l, n, more)
					s, f := c.run(l, n, more)
					if !slices.Equal(r, s) || e != f {
						t.Errorf("%s of %v, %d, %v: %v %d, then %v %d", c.name, l, n, more, r, e, s, f)
					}
				}
			}
		}
	}
}
