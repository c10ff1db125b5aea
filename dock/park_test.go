package dock_test

import (
	"math"
	"slices"
	"testing"

	"vitola/api"
	"vitola/dock"
)

// P1.2: Park and Serves.
func TestParkAndServes(t *testing.T) {
	for bays, l := range wishes() {
		want := modelPark(bays, l)
		if p, e := dock.Park(bays, l); !slices.Equal(p, want) || e != api.OK {
			t.Fatalf("Park of %d, %v: %v %d, want %v", bays, l, p, e, want)
		}
		if is, e := dock.Serves(bays, l); is == slices.Contains(want, -1) || e != api.OK {
			t.Fatalf("Serves of %d, %v: %v %d", bays, l, is, e)
		}
	}
}

// P1.3: Against and Proves.
func TestAgainstAndProves(t *testing.T) {
	for bays, l := range wishes() {
		smallest, wantError := 0, api.ErrClash
		for last := bays; last >= 1; last-- {
			want := api.ErrProof
			if wishesFor(bays, l, last) > last {
				smallest, wantError, want = last, api.OK, api.OK
			}
			if e := dock.Proves(bays, l, last); e != want {
				t.Fatalf("Proves of %d, %v, %d: %d, want %d", bays, l, last, e, want)
			}
		}
		if k, e := dock.Against(bays, l); k != smallest || e != wantError {
			t.Fatalf("Against of %d, %v: %d %d, want %d %d", bays, l, k, e, smallest, wantError)
		}
		for _, last := range list(0, -1, bays+1, math.MaxInt, math.MinInt) {
			if e := dock.Proves(bays, l, last); e != api.ErrRange {
				t.Fatalf("Proves of %d, %v, %d: %d, want ErrRange", bays, l, last, e)
			}
		}
	}
}

// P1.4: Way and Lucky.
func TestWayAndLucky(t *testing.T) {
	for bays, l := range wishes() {
		way, lucky := 0, 0
		for i, bay := range modelPark(bays, l) {
			if bay == l[i] {
				lucky++
			}
			if bay >= 0 {
				way += bay - l[i]
			}
		}
		if n, e := dock.Way(bays, l); n != way || e != api.OK {
			t.Fatalf("Way of %d, %v: %d %d, want %d", bays, l, n, e, way)
		}
		if n, e := dock.Lucky(bays, l); n != lucky || e != api.OK {
			t.Fatalf("Lucky of %d, %v: %d %d, want %d", bays, l, n, e, lucky)
		}
	}
}

// P1.11: wishes serve all just if nothing proves that they do not, and what Against returns is a proof.
func TestProofs(t *testing.T) {
	for bays, l := range wishes() {
		is, _ := dock.Serves(bays, l)
		k, e := dock.Against(bays, l)
		if is != (e == api.ErrClash) {
			t.Fatalf("Serves of %d, %v: %v, Against: %d %d", bays, l, is, k, e)
		}
		if e == api.OK && dock.Proves(bays, l, k) != api.OK {
			t.Fatalf("Proves of %d, %v refuses %d", bays, l, k)
		}
		for last := 1; last <= bays; last++ {
			if is && dock.Proves(bays, l, last) != api.ErrProof {
				t.Fatalf("Proves of %d, %v accepts %d", bays, l, last)
			}
		}
	}
}

// sums returns the bays that are taken, how many carts go away, whether all are served, and Way.
func sums(bays int, l []int) (taken []int, gone int, is bool, way int) {
	parked, _ := dock.Park(bays, l)
	for _, bay := range parked {
		if bay < 0 {
			gone++
		} else {
			taken = append(taken, bay)
		}
	}
	slices.Sort(taken)
	is, _ = dock.Serves(bays, l)
	way, _ = dock.Way(bays, l)
	return taken, gone, is, way
}

// P1.12: two neighbours exchanged change nothing of it; exchanges lead to every order.
func TestOtherOrder(t *testing.T) {
	for bays, l := range wishes() {
		taken, gone, is, way := sums(bays, l)
		for i := 1; i < len(l); i++ {
			other := slices.Clone(l)
			other[i-1], other[i] = l[i], l[i-1]
			taken2, gone2, is2, way2 := sums(bays, other)
			if !slices.Equal(taken, taken2) || gone != gone2 || is != is2 || is && way != way2 {
				t.Fatalf("%d bays, %v: %v %d %v %d; %v: %v %d %v %d", bays, l, taken, gone, is, way, other, taken2, gone2, is2, way2)
			}
		}
	}
}

// P1.14: with a smaller wish, or without a cart, all are served as before.
func TestLess(t *testing.T) {
	for bays, l := range wishes() {
		if is, _ := dock.Serves(bays, l); !is {
			continue
		}
		for i := range l {
			for smaller := range l[i] {
				other := slices.Clone(l)
				other[i] = smaller
				if is, e := dock.Serves(bays, other); !is || e != api.OK {
					t.Fatalf("%d bays: %v serve all, %v do not: %d", bays, l, other, e)
				}
			}
			fewer := slices.Delete(slices.Clone(l), i, i+1)
			if is, e := dock.Serves(bays, fewer); !is || e != api.OK {
				t.Fatalf("%d bays: %v serve all, %v do not: %d", bays, l, fewer, e)
			}
		}
	}
}
