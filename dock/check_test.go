package dock_test

import (
	"fmt"
	"math"
	"slices"
	"testing"

	"vitola/api"
	"vitola/dock"
)

// P1.1: errors of Check, in their order.
func TestCheck(t *testing.T) {
	if dock.MaxBays != 8 {
		t.Fatalf("MaxBays: %d", dock.MaxBays)
	}
	for _, x := range []struct {
		bays   int
		wishes []int
		want   api.Errno
	}{
		{1, nil, api.OK},
		{1, list(), api.OK},
		{1, list(0), api.OK},
		{4, list(2, 0, 0, 2), api.OK},
		{8, list(7, 7, 7, 7, 7, 7, 7, 7), api.OK},
		{8, list(0, 1, 2, 3, 4, 5, 6, 7), api.OK},
		{8, list(0, 1, 2, 3, 4, 5, 6, 7, 0), api.ErrMany},
		{8, list(0, 1, 2, 3, 4, 5, 6, 8), api.ErrNone},
		{1, list(1), api.ErrNone},
		{1, list(0, 0), api.ErrMany},
		{1, list(-1, 5), api.ErrMany},
		{3, list(-1), api.ErrNone},
		{3, list(0, 3), api.ErrNone},
		{3, list(math.MaxInt), api.ErrNone},
		{3, list(math.MinInt), api.ErrNone},
		{3, list(1 << 32), api.ErrNone},
		{0, list(0), api.ErrRange},
		{9, nil, api.ErrRange},
		{0, nil, api.ErrRange},
		{2, make([]int, 1_000_000), api.ErrMany},
	} {
		if e := dock.Check(x.bays, x.wishes); e != x.want {
			t.Errorf("Check of %d, %d wishes: %d, want %d", x.bays, len(x.wishes), e, x.want)
		}
	}
	for bays := -1; bays <= 3; bays++ {
		for carts := 0; carts <= 4; carts++ {
			for l := range lists(carts, -1, 3) {
				if e := dock.Check(bays, l); e != modelCheck(bays, l) {
					t.Errorf("Check of %d, %v: %d", bays, l, e)
				}
			}
		}
	}
}

// P1.1: all calls refuse wrong bays, whatever else there is.
func TestWrongBays(t *testing.T) {
	for _, bays := range wrongBays {
		for _, l := range [][]int{nil, list(0), list(-1), list(0, 0), list(9, 9), make([]int, 20)} {
			for _, c := range callsOfLists() {
				n, r, e := c.run(bays, l)
				what := fmt.Sprintf("%s of %d, %v", c.name, bays, l)
				wantEmpty(t, what, n, r)
				if e != api.ErrRange {
					t.Errorf("%s: %d, want ErrRange", what, e)
				}
			}
			for _, wish := range list(0, -1, 9) {
				if n, e := dock.Next(bays, l, wish); n != 0 || e != api.ErrRange {
					t.Errorf("Next of %d, %v, %d: %d %d", bays, l, wish, n, e)
				}
			}
		}
		for _, carts := range list(0, 1, -1, 9, bays) {
			if n, e := dock.Count(bays, carts); n != 0 || e != api.ErrRange {
				t.Errorf("Count of %d, %d: %d %d", bays, carts, n, e)
			}
			if l, e := dock.At(bays, carts, 0); len(l) != 0 || e != api.ErrRange {
				t.Errorf("At of %d, %d: %v %d", bays, carts, l, e)
			}
		}
	}
}

// P1.1: the calls of bays and wishes return the error of Check before any other one.
func TestErrorOfCheckFirst(t *testing.T) {
	for bays := 1; bays <= 3; bays++ {
		for carts := 0; carts <= bays+1; carts++ {
			for l := range lists(carts, -1, bays) {
				want := modelCheck(bays, l)
				if want == api.OK {
					continue
				}
				for _, c := range callsOfWishes() {
					n, r, e := c.run(bays, l)
					what := fmt.Sprintf("%s of %d, %v", c.name, bays, l)
					wantEmpty(t, what, n, r)
					if e != want {
						t.Errorf("%s: %d, want %d", what, e, want)
					}
				}
			}
		}
	}
	for _, l := range [][]int{list(math.MaxInt), list(0, math.MinInt), list(3, 3, 3, 8)} {
		for _, c := range callsOfWishes() {
			n, r, e := c.run(4, l)
			wantEmpty(t, c.name, n, r)
			if e != api.ErrNone {
				t.Errorf("%s of 4, %v: %d, want ErrNone", c.name, l, e)
			}
		}
	}
}

func modelNext(bays int, taken []int, wish int) (int, api.Errno) {
	if e := modelDifferent(bays, taken); e != api.OK {
		return 0, e
	}
	if wish < 0 || wish >= bays {
		return 0, api.ErrNone
	}
	for bay := wish; bay < bays; bay++ {
		if !slices.Contains(taken, bay) {
			return bay, api.OK
		}
	}
	return 0, api.ErrLost
}

func checkNext(t *testing.T, bays int, taken []int, wish int) {
	t.Helper()
	want, wantError := modelNext(bays, taken, wish)
	if bay, e := dock.Next(bays, taken, wish); bay != want || e != wantError {
		t.Errorf("Next of %d, %v, %d: %d %d, want %d %d", bays, taken, wish, bay, e, want, wantError)
	}
}

// P1.1: Next for all sets of taken bays, in both directions, and all wishes.
func TestNext(t *testing.T) {
	for bays := 1; bays <= 8; bays++ {
		for bits := range lists(bays, 0, 1) {
			var taken []int
			for bay, bit := range bits {
				if bit == 1 {
					taken = append(taken, bay)
				}
			}
			back := slices.Clone(taken)
			slices.Reverse(back)
			for wish := -1; wish <= bays; wish++ {
				checkNext(t, bays, taken, wish)
				checkNext(t, bays, back, wish)
			}
		}
	}
}

// P1.1: of the numbers of taken the first one with an error decides, and the wish comes after them.
func TestNextErrors(t *testing.T) {
	for bays := 1; bays <= 3; bays++ {
		for many := 0; many <= 4; many++ {
			for taken := range lists(many, -1, bays) {
				for wish := -1; wish <= bays; wish++ {
					checkNext(t, bays, taken, wish)
				}
			}
		}
	}
	for _, x := range []struct {
		taken []int
		wish  int
		want  api.Errno
	}{
		{list(0, 0, 9), 9, api.ErrTwice},
		{list(9, 0, 0), 0, api.ErrNone},
		{list(9, 9), 0, api.ErrNone},
		{list(0, 1, 2, 3, 0), -1, api.ErrTwice},
		{list(0, 1, 2, 3), 4, api.ErrNone},
		{list(0, 1, 2, 3), 0, api.ErrLost},
		{nil, math.MaxInt, api.ErrNone},
		{nil, math.MinInt, api.ErrNone},
		{list(math.MaxInt), 0, api.ErrNone},
		{list(math.MinInt), 0, api.ErrNone},
		{list(64), 0, api.ErrNone},
		{make([]int, 1_000_000), 0, api.ErrTwice},
	} {
		if bay, e := dock.Next(4, x.taken, x.wish); bay != 0 || e != x.want {
			t.Errorf("Next of 4, %d taken, %d: %d %d, want %d", len(x.taken), x.wish, bay, e, x.want)
		}
	}
}

// P1, F4: each call ends with the extreme numbers, and has the same result the second time.
func TestSameAgain(t *testing.T) {
	numbers := list(0, 1, 3, 4, 8, -1, 64, math.MaxInt, math.MinInt)
	for _, bays := range append(numbers, 2, 7, 9) {
		for _, a := range numbers {
			for _, l := range [][]int{nil, list(a), list(0, a), list(a, 2, 2)} {
				for _, c := range callsOfLists() {
					n, r, e := c.run(bays, l)
					m, s, f := c.run(bays, l)
					if n != m || !slices.Equal(r, s) || e != f {
						t.Errorf("%s of %d, %v: %d %v %d, then %d %v %d", c.name, bays, l, n, r, e, m, s, f)
					}
				}
			}
			for _, b := range numbers {
				l, e := dock.At(bays, a, b)
				m, f := dock.At(bays, a, b)
				if !slices.Equal(l, m) || e != f {
					t.Errorf("At of %d, %d, %d: %v %d, then %v %d", bays, a, b, l, e, m, f)
				}
			}
		}
	}
}
