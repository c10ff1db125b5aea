package dock_test

import (
	"math"
	"slices"
	"testing"

	"vitola/api"
	"vitola/dock"
)

// serving returns all lists of wishes that serve all, in ascending order.
func serving(bays, carts int) [][]int {
	var found [][]int
	for l := range lists(carts, 0, bays-1) {
		if modelServes(bays, l) {
			found = append(found, l)
		}
	}
	return found
}

// P1.5, P1.6: Count, At and Number are those of the list of all that serve all.
func TestNumbers(t *testing.T) {
	for bays := 1; bays <= 5; bays++ {
		for carts := 0; carts <= bays; carts++ {
			all := serving(bays, carts)
			if n, e := dock.Count(bays, carts); n != len(all) || e != api.OK {
				t.Fatalf("Count of %d, %d: %d %d, want %d", bays, carts, n, e, len(all))
			}
			for i, want := range all {
				if l, e := dock.At(bays, carts, i); !slices.Equal(l, want) || e != api.OK {
					t.Fatalf("At of %d, %d, %d: %v %d, want %v", bays, carts, i, l, e, want)
				}
				if n, e := dock.Number(bays, want); n != i || e != api.OK {
					t.Fatalf("Number of %d, %v: %d %d, want %d", bays, want, n, e, i)
				}
			}
		}
	}
}

// P1.5, P1.6: carts from 0 to bays, and numbers from 0 to Count less 1.
func TestBoundsOfNumbers(t *testing.T) {
	for bays := 1; bays <= 8; bays++ {
		for _, carts := range list(-1, bays+1, 9, 64, math.MaxInt, math.MinInt) {
			if carts == bays {
				continue
			}
			if n, e := dock.Count(bays, carts); n != 0 || e != api.ErrRange {
				t.Errorf("Count of %d, %d: %d %d, want ErrRange", bays, carts, n, e)
			}
			for _, number := range list(0, -1, 1) {
				if l, e := dock.At(bays, carts, number); len(l) != 0 || e != api.ErrRange {
					t.Errorf("At of %d, %d, %d: %v %d, want ErrRange", bays, carts, number, l, e)
				}
			}
		}
		for carts := 0; carts <= bays; carts++ {
			n, _ := dock.Count(bays, carts)
			for _, number := range list(-1, n, n+1, math.MaxInt, math.MinInt) {
				if l, e := dock.At(bays, carts, number); len(l) != 0 || e != api.ErrRange {
					t.Errorf("At of %d, %d, %d: %v %d, want ErrRange", bays, carts, number, l, e)
				}
			}
			for _, number := range list(0, n-1) {
				if l, e := dock.At(bays, carts, number); len(l) != carts || e != api.OK {
					t.Errorf("At of %d, %d, %d: %v %d", bays, carts, number, l, e)
				}
			}
		}
	}
}

// P1.6: Number refuses wishes that do not serve all.
func TestNumberProof(t *testing.T) {
	for bays, l := range wishes() {
		n, e := dock.Number(bays, l)
		if is := modelServes(bays, l); is != (e == api.OK) || !is && (n != 0 || e != api.ErrProof) {
			t.Fatalf("Number of %d, %v: %d %d", bays, l, n, e)
		}
	}
}

// P1.9: the formula of Konheim and Weiss.
func TestKonheimAndWeiss(t *testing.T) {
	for bays := 1; bays <= 8; bays++ {
		if n, e := dock.Count(bays, 0); n != 1 || e != api.OK {
			t.Errorf("Count of %d, 0: %d %d", bays, n, e)
		}
		for carts := 1; carts <= bays; carts++ {
			want := (bays + 1 - carts) * power(bays+1, carts-1)
			if n, e := dock.Count(bays, carts); n != want || e != api.OK {
				t.Errorf("Count of %d, %d: %d %d, want %d", bays, carts, n, e, want)
			}
		}
	}
}

// P1.15: what has a number is found by it, and the next number has a greater list.
func TestThereAndBack(t *testing.T) {
	for bays := 1; bays <= 8; bays++ {
		for carts := 0; carts <= bays; carts++ {
			n, _ := dock.Count(bays, carts)
			var before []int
			for number := 0; number < n; number += 1 + n/400 {
				l, e := dock.At(bays, carts, number)
				if e != api.OK || len(l) != carts || !modelServes(bays, l) {
					t.Fatalf("At of %d, %d, %d: %v %d", bays, carts, number, l, e)
				}
				if number > 0 && slices.Compare(before, l) >= 0 {
					t.Fatalf("At of %d, %d, %d: %v, not greater than %v", bays, carts, number, l, before)
				}
				if back, e := dock.Number(bays, l); back != number || e != api.OK {
					t.Fatalf("Number of %d, %v: %d %d, want %d", bays, l, back, e, number)
				}
				before = l
			}
		}
	}
	for bays, l := range wishes() {
		number, e := dock.Number(bays, l)
		if e != api.OK {
			continue
		}
		if back, e := dock.At(bays, len(l), number); !slices.Equal(back, l) || e != api.OK {
			t.Fatalf("At of %d, %d, %d: %v %d, want %v", bays, len(l), number, back, e, l)
		}
	}
}
