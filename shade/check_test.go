package shade_test

import (
	"math"
	"slices"
	"testing"

	"vitola/api"
	"vitola/shade"
)

func TestLimits(t *testing.T) {
	if shade.MaxShade != 60 || shade.MaxCigars != 7 || shade.MaxOrder != 9 {
		t.Error(shade.MaxShade, shade.MaxCigars, shade.MaxOrder)
	}
}

// modelCheck looks at shades one by one.
func modelCheck(shades []int) api.Errno {
	if len(shades) == 0 {
		return api.ErrEmpty
	}
	if len(shades) > 7 {
		return api.ErrMany
	}
	for _, s := range shades {
		if s < 0 || s > 60 {
			return api.ErrRange
		}
	}
	return api.OK
}

// checkShades compares Check with the model; the other calls of shades return its error, whatever else is wrong.
func checkShades(t *testing.T, shades []int) {
	t.Helper()
	want := modelCheck(shades)
	if e := shade.Check(shades); e != want {
		t.Fatalf("Check of %d shades, %v: %d, want %d", len(shades), shades[:min(len(shades), 9)], e, want)
	}
	if want == api.OK {
		return
	}
	for _, c := range callsOfShades() {
		for _, round := range boths() {
			for _, index := range list(-1, 0, 7, math.MaxInt) {
				wantError(t, c, input{list: shades, round: round, index: index, step: 61}, want)
			}
		}
	}
}

// P7.1: errors of shades, in their order.
func TestCheck(t *testing.T) {
	for length := range 4 {
		for l := range lists(length, append(extremes(), 0, 30, 60)...) {
			checkShades(t, l)
		}
	}
	for length := range 12 {
		checkShades(t, make([]int, length))
		checkShades(t, slices.Repeat(list(60), length))
		for place := range length {
			for _, wrong := range extremes() {
				l := slices.Repeat(list(30), length)
				l[place] = wrong
				checkShades(t, l)
			}
		}
	}
	checkShades(t, slices.Repeat(list(-1), 100_000))
}

// P7.1: each number of cigars and each shade within the bounds is accepted.
func TestBounds(t *testing.T) {
	for n := 1; n <= shade.MaxCigars; n++ {
		for s := range shade.MaxShade + 1 {
			if e := shade.Check(slices.Repeat(list(s), n)); e != api.OK {
				t.Errorf("Check of %d cigars of the shade %d: %d", n, s, e)
			}
		}
		for _, c := range callsOfShades() {
			for _, round := range boths() {
				_, e := c.run(input{list: slices.Repeat(list(60, 0), n)[:n], round: round})
				lone := n == 1 && (c.name == "Why" && e == api.ErrLost || c.name == "Proves" && e == api.ErrRange)
				if e != api.OK && !lone {
					t.Errorf("%s of %d cigars, %v: %d", c.name, n, round, e)
				}
			}
		}
	}
}

// R3: a nil list and an empty one are equal.
func TestNil(t *testing.T) {
	for _, c := range slices.Concat(callsOfShades(), callsOfOrders()) {
		for _, round := range boths() {
			wantError(t, c, input{round: round}, api.ErrEmpty)
			wantError(t, c, input{round: round, list: list()}, api.ErrEmpty)
		}
	}
}

// P7.6, P7.8: errors of orders, in their order.
func TestErrorOfOrders(t *testing.T) {
	for length := range 6 {
		for order := range lists(length, -1, 0, 1, 2, 3, 4, 5) {
			checkOrder(t, order)
		}
	}
	for length := range 13 {
		order := make([]int, length)
		for i := range order {
			order[i] = (i*5 + 3) % length
		}
		checkOrder(t, order)
		for place := range order {
			for _, number := range append(extremes(), 0, 1, length-1, length, length+1) {
				wrong := slices.Clone(order)
				wrong[place] = number
				checkOrder(t, wrong)
				wrong[length-1-place] = number
				checkOrder(t, wrong)
			}
		}
	}
	checkOrder(t, make([]int, 100_000))
	checkOrder(t, slices.Repeat(list(-1), 10))
}

// checkOrder compares Turning with the model; Number returns its error, or that the order does not turn.
func checkOrder(t *testing.T, order []int) {
	t.Helper()
	want, e := modelTurning(order)
	if turning, f := shade.Turning(order); turning != want || f != e {
		t.Fatalf("Turning of %d numbers, %v: %v %d, want %v %d", len(order), order[:min(len(order), 20)], turning, f, want, e)
	}
	if e == api.OK && !want {
		e = api.ErrLost
	}
	n, f := shade.Number(order)
	if e != f || e != api.OK && n != 0 {
		t.Fatalf("Number of %d numbers, %v: %d %d, want error %d", len(order), order[:min(len(order), 20)], n, f, e)
	}
}

// P7.7, P7.8: numbers of cigars that are out of range.
func TestRangeOfCigars(t *testing.T) {
	for _, c := range callsOfCigars() {
		for _, cigars := range append(extremes(), 0, 10, 11, 60) {
			for _, number := range append(extremes(), 0, 1, 9) {
				wantError(t, c, input{cigars: cigars, first: number, place: number}, api.ErrRange)
			}
		}
	}
}

// P7.7, P7.8: what no order begins with, and what is no number of an order.
func TestRangeOfNumbers(t *testing.T) {
	many := list(0, 1, 1, 2, 5, 16, 61, 272, 1385, 7936)
	for _, c := range callsOfCigars()[1:] {
		for cigars := 1; cigars <= shade.MaxOrder; cigars++ {
			for _, number := range list(math.MinInt, -1<<32, -2, -1) {
				wantError(t, c, input{cigars: cigars, first: number, place: number}, api.ErrRange)
			}
			for _, more := range list(0, 1, 2, 100, 1<<31, 1<<32, math.MaxInt-8000) {
				wantError(t, c, input{cigars: cigars, first: cigars + more, place: many[cigars] + more}, api.ErrRange)
			}
			if _, e := c.run(input{cigars: cigars, first: cigars - 1, place: many[cigars] - 1}); e != api.OK {
				t.Errorf("%s of %d and the last one: %d", c.name, cigars, e)
			}
		}
	}
}

// P1: each call ends with the extreme numbers, and has the same result the second time.
func TestSameAgain(t *testing.T) {
	numbers := append(extremes(), 0, 1, 2, 7, 9, 60)
	for _, c := range calls() {
		for _, n := range numbers {
			for _, m := range numbers {
				checkAgain(t, c, input{list: list(n, m), index: n, step: m, cigars: n, first: m, place: m})
				checkAgain(t, c, input{list: s(), round: true, index: n, step: m, cigars: 9, first: m, place: m})
				checkAgain(t, c, input{list: list(7, 8, 5, 6, 3, 4, 1, 2, 0), index: n, step: m, cigars: 4, first: n, place: n})
			}
		}
	}
}

func checkAgain(t *testing.T, c call, x input) {
	t.Helper()
	r, e := c.run(x)
	if s, f := c.run(x); !slices.Equal(r, s) || e != f {
		t.Fatalf("%s of %v: %v %d, then %v %d", c.name, x, r, e, s, f)
	}
	if e != api.OK && len(r) != 0 {
		t.Fatalf("%s of %v: %v with the error %d", c.name, x, r, e)
	}
}
