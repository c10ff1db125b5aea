package bench_test

import (
	"math"
	"slices"
	"testing"

	"vitola/api"
	"vitola/bench"
)

func TestLimits(t *testing.T) {
	if bench.MaxRollers != 20 || bench.MaxCount != 1000000000 || bench.MaxTried != 1000 {
		t.Error(bench.MaxRollers, bench.MaxCount, bench.MaxTried)
	}
}

// P6.1, P6.2: a number of rollers and a count that are out of range, before anything else that is wrong.
func TestRangeOfCounts(t *testing.T) {
	for _, c := range callsOfCounts() {
		for _, number := range append(extremes(), 0, 1, 6, 7, 20, 21) {
			for _, rollers := range append(extremes(), 0, 21, 22) {
				for _, count := range append(extremes(), 0, 1, 3, bench.MaxCount) {
					wantError(t, c, input{rollers: rollers, count: count, number: number}, api.ErrRange)
				}
			}
			for rollers := 1; rollers <= 20; rollers++ {
				for _, count := range append(extremes(), 0) {
					wantError(t, c, input{rollers: rollers, count: count, number: number}, api.ErrRange)
				}
			}
		}
	}
}

// P6.1: each number of rollers and each count within the bounds is accepted.
func TestBounds(t *testing.T) {
	for _, c := range callsOfCounts() {
		for rollers := 1; rollers <= 20; rollers++ {
			for _, count := range list(1, 2, 19, 20, 21, bench.MaxCount-1, bench.MaxCount) {
				for number := range rollers {
					x := input{rollers: rollers, count: count, number: number}
					if _, e := c.run(x); e != api.OK {
						t.Errorf("%s of %v: %d", c.name, x, e)
					}
				}
			}
		}
	}
}

// P6.2: what is no roller and no place.
func TestNone(t *testing.T) {
	for _, c := range callsOfOne() {
		for rollers := 1; rollers <= 20; rollers++ {
			for _, number := range append(extremes(), rollers, rollers+1) {
				for _, count := range list(1, 2, 3, rollers, bench.MaxCount) {
					wantError(t, c, input{rollers: rollers, count: count, number: number}, api.ErrNone)
				}
			}
		}
	}
}

// P6.3, P6.6, P6.7: a number of rollers that is out of range, before anything else that is wrong.
func TestRangeOfRollers(t *testing.T) {
	for _, c := range callsOfRollers() {
		for _, rollers := range append(extremes(), 0, 21, 22) {
			for _, home := range [][]int{nil, {}, list(0), list(-1), list(1, 1), list(20)} {
				for _, number := range append(extremes(), 0, 1, 20) {
					wantError(t, c, input{rollers: rollers, number: number, rollersOf: home}, api.ErrRange)
				}
			}
		}
	}
}

// P6.6: what is no roller.
func TestNoneOfSmallest(t *testing.T) {
	for rollers := 1; rollers <= 20; rollers++ {
		for _, roller := range append(extremes(), rollers, rollers+1) {
			count, e := bench.Smallest(rollers, roller)
			wantNumber(t, "Smallest", list(rollers, roller), count, e, 0, api.ErrNone)
		}
	}
}

// P6.4: errors of Check, in their order, which Remainders and Count return at first.
func TestCheck(t *testing.T) {
	for length := range 6 {
		for order := range lists(length, -1, length) {
			checkOrder(t, order)
		}
	}
	for length := range 25 {
		for first := range 3 {
			right := make([]int, length)
			for i := range right {
				right[i] = (i*7 + first) % max(length, 1)
			}
			checkOrder(t, right)
			for place := range right {
				for _, roller := range append(extremes(), 0, 1, length-1, length, length+1) {
					order := slices.Clone(right)
					order[place] = roller
					checkOrder(t, order)
					order[length-1-place] = roller
					checkOrder(t, order)
				}
			}
		}
	}
	checkOrder(t, nil)
	checkOrder(t, make([]int, 1000))
}

func checkOrder(t *testing.T, order []int) {
	t.Helper()
	want := modelCheck(order)
	if e := bench.Check(order); e != want {
		t.Fatalf("Check of %v: %d, want %d", order, e, want)
	}
	if want == api.OK {
		return
	}
	for _, c := range callsOfOrders() {
		wantError(t, c, input{rollersOf: order}, want)
	}
}

// modelHome returns the error of those who shall go first.
func modelHome(rollers int, home []int) api.Errno {
	before := -1
	for _, roller := range home {
		if roller < 0 || roller > rollers-1 {
			return api.ErrNone
		}
		if roller < before+1 {
			return api.ErrOrder
		}
		before = roller
	}
	return api.OK
}

// P6.7: errors of First, in their order.
func TestErrorOfFirst(t *testing.T) {
	for rollers := 1; rollers <= 4; rollers++ {
		for length := range 6 {
			for home := range lists(length, -1, rollers) {
				checkHome(t, rollers, home)
			}
		}
	}
	for rollers := 1; rollers <= 20; rollers++ {
		all := make([]int, rollers)
		for i := range all {
			all[i] = i
		}
		for place := range all {
			for _, roller := range append(extremes(), place-1, place, place+1, rollers-1, rollers) {
				home := slices.Clone(all)
				home[place] = roller
				checkHome(t, rollers, home)
				checkHome(t, rollers, slices.Delete(home, 0, place/2))
			}
		}
		checkHome(t, rollers, append(all, rollers))
		checkHome(t, rollers, append(all, rollers-1))
		checkHome(t, rollers, append(all, 0))
		checkHome(t, rollers, slices.Repeat(list(0), 1000))
	}
}

func checkHome(t *testing.T, rollers int, home []int) {
	t.Helper()
	want := modelHome(rollers, home)
	count, e := bench.First(rollers, home)
	if want == api.OK && (e == api.OK || e == api.ErrLost && count == 0) {
		return
	}
	wantNumber(t, "First", []any{rollers, home}, count, e, 0, want)
}

// R3: a nil list and an empty one are equal.
func TestNil(t *testing.T) {
	for rollers := 1; rollers <= 20; rollers++ {
		for _, home := range [][]int{nil, {}} {
			count, e := bench.First(rollers, home)
			wantNumber(t, "First", rollers, count, e, 1, api.OK)
		}
	}
	for _, c := range callsOfOrders() {
		wantError(t, c, input{}, api.ErrRange)
		wantError(t, c, input{rollersOf: list()}, api.ErrRange)
	}
}

// P1: each call ends with the extreme numbers, and has the same result the second time.
func TestSameAgain(t *testing.T) {
	numbers := append(extremes(), 0, 1, 2, 20, 21, bench.MaxCount)
	for _, c := range calls() {
		for _, n := range numbers {
			for _, m := range numbers {
				for _, k := range numbers {
					checkAgain(t, c, input{rollers: n, count: m, number: k, rollersOf: list(n, m, k)})
				}
				checkAgain(t, c, input{rollers: 7, count: n, number: m, rollersOf: list(m, n)})
				checkAgain(t, c, input{rollers: 20, count: math.MaxInt, number: n, rollersOf: list(n, 1, m)})
			}
		}
	}
}

func checkAgain(t *testing.T, c call, x input) {
	t.Helper()
	r, e := c.run(x)
	if s, f := c.run(x); !slices.Equal(r, s) || e != f {
		t.Fatalf("%s of %v: %v %d, then %v %d", c.name, x, r, e, s, f)
	}
	if e != api.OK && len(r) != 0 {
		t.Fatalf("%s of %v: %v with the error %d", c.name, x, r, e)
	}
}
