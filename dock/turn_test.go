package dock_test

import (
	"math"
	"slices"
	"testing"

	"vitola/api"
	"vitola/dock"
)

func modelTurns(bays int, places []int) ([]int, api.Errno) {
	if len(places) > bays {
		return nil, api.ErrMany
	}
	for _, p := range places {
		if p < 0 || p > bays {
			return nil, api.ErrNone
		}
	}
	var found []int
	for s := 0; s <= bays; s++ {
		var l []int
		for _, p := range places {
			l = append(l, (p+s)%(bays+1))
		}
		if !slices.Contains(l, bays) && modelServes(bays, l) {
			found = append(found, s)
		}
	}
	return found, api.OK
}

func checkTurns(t *testing.T, bays int, places []int) {
	t.Helper()
	want, wantError := modelTurns(bays, places)
	if l, e := dock.Turns(bays, places); !slices.Equal(l, want) || e != wantError {
		t.Fatalf("Turns of %d, %v: %v %d, want %v %d", bays, places, l, e, want, wantError)
	}
}

// P1.7: Turns and its errors.
func TestTurns(t *testing.T) {
	for bays := 1; bays <= 4; bays++ {
		for many := 0; many <= bays; many++ {
			for l := range lists(many, -1, bays+1) {
				checkTurns(t, bays, l)
			}
		}
		for l := range lists(bays+1, 0, 1) {
			checkTurns(t, bays, l)
		}
	}
	for bays := 5; bays <= 8; bays++ {
		for many := 0; many <= bays; many++ {
			for l := range samples(200, many, bays) {
				checkTurns(t, bays, l)
			}
		}
	}
	for _, l := range [][]int{list(math.MaxInt), list(0, math.MinInt), list(-1), list(9), list(0, 0, 0, 0, 0, 0, 0, 9), list(-9)} {
		if r, e := dock.Turns(8, l); len(r) != 0 || e != api.ErrNone {
			t.Errorf("Turns of 8, %v: %v %d, want ErrNone", l, r, e)
		}
	}
	for _, l := range [][]int{make([]int, 9), make([]int, 1_000_000), list(-1, -1, -1, -1, -1, -1, -1, -1, -1)} {
		if r, e := dock.Turns(8, l); len(r) != 0 || e != api.ErrMany {
			t.Errorf("Turns of 8, %d places: %v %d, want ErrMany", len(l), r, e)
		}
	}
}

// P1.10: Pollak's circle.
func TestPollak(t *testing.T) {
	for bays := 1; bays <= 8; bays++ {
		for many := 0; many <= bays; many++ {
			all := lists(many, 0, bays)
			if bays > 4 {
				all = samples(300, many, bays)
			}
			for l := range all {
				if r, e := dock.Turns(bays, l); len(r) != bays-many+1 || e != api.OK {
					t.Fatalf("Turns of %d, %v: %v %d", bays, l, r, e)
				}
			}
		}
	}
}

// P1.8: Ways counts the lists of wishes that park so.
func TestWays(t *testing.T) {
	for bays := 1; bays <= 5; bays++ {
		for carts := 0; carts <= bays; carts++ {
			lead := map[[5]int]int{}
			for l := range lists(carts, 0, bays-1) {
				var key [5]int
				copy(key[:], modelPark(bays, l))
				lead[key]++
			}
			for parked := range lists(carts, 0, bays-1) {
				var key [5]int
				copy(key[:], parked)
				want, wantError := lead[key], modelDifferent(bays, parked)
				if n, e := dock.Ways(bays, parked); n != want || e != wantError {
					t.Fatalf("Ways of %d, %v: %d %d, want %d %d", bays, parked, n, e, want, wantError)
				}
			}
		}
	}
}

// P1.8: the errors of Ways, in their order.
func TestWaysErrors(t *testing.T) {
	for bays := 1; bays <= 3; bays++ {
		for many := 0; many <= 4; many++ {
			for l := range lists(many, -1, bays) {
				want := modelDifferent(bays, l)
				if many > bays {
					want = api.ErrMany
				}
				n, e := dock.Ways(bays, l)
				if e != want || (e == api.OK) != (n > 0) {
					t.Fatalf("Ways of %d, %v: %d %d, want %d", bays, l, n, e, want)
				}
			}
		}
	}
	for _, x := range []struct {
		parked []int
		want   api.Errno
	}{
		{list(2, 2, 9), api.ErrTwice},
		{list(9, 2, 2), api.ErrNone},
		{list(9, 9), api.ErrNone},
		{list(math.MaxInt), api.ErrNone},
		{list(math.MinInt), api.ErrNone},
		{list(1, 64), api.ErrNone},
		{make([]int, 1_000_000), api.ErrMany},
		{list(9, 9, 9, 9, 9), api.ErrMany},
	} {
		if n, e := dock.Ways(4, x.parked); n != 0 || e != x.want {
			t.Errorf("Ways of 4, %d bays: %d %d, want %d", len(x.parked), n, e, x.want)
		}
	}
}

// arrangements calls f with all lists of different bays that begin with some.
func arrangements(bays, many int, begin []int, f func([]int)) {
	if len(begin) == many {
		f(slices.Clone(begin))
		return
	}
	for bay := range bays {
		if !slices.Contains(begin, bay) {
			arrangements(bays, many, append(slices.Clone(begin), bay), f)
		}
	}
}

// P1.13: Ways is a product, and the sum of all Ways is Count.
func TestWaysProductAndSum(t *testing.T) {
	for bays := 1; bays <= 8; bays++ {
		for carts := 0; carts <= bays; carts++ {
			sum := 0
			arrangements(bays, carts, nil, func(parked []int) {
				want := 1
				for i, bay := range parked {
					row := 1
					for slices.Contains(parked[:i], bay-row) {
						row++
					}
					want *= row
				}
				n, e := dock.Ways(bays, parked)
				if n != want || e != api.OK {
					t.Fatalf("Ways of %d, %v: %d %d, want %d", bays, parked, n, e, want)
				}
				sum += n
			})
			if n, e := dock.Count(bays, carts); n != sum || e != api.OK {
				t.Errorf("Count of %d, %d: %d %d, but the sum of Ways is %d", bays, carts, n, e, sum)
			}
		}
	}
}
