package grade_test

import (
	"fmt"
	"math"
	"slices"
	"testing"

	"vitola/api"
	"vitola/grade"
)

// wrong are lists that are no orders.
func wrong() []struct {
	order []int
	want  api.Errno
} {
	return []struct {
		order []int
		want  api.Errno
	}{
		{nil, api.ErrEmpty},
		{list(), api.ErrEmpty},
		{list(0, 1, 2, 3, 4, 5, 6, 7), api.ErrMany},
		{make([]int, 8), api.ErrMany},
		{slices.Repeat(list(-1), 9), api.ErrMany},
		{make([]int, 1_000_000), api.ErrMany},
		{list(1), api.ErrNone},
		{list(-1), api.ErrNone},
		{list(0, 2), api.ErrNone},
		{list(1, 2, 3), api.ErrNone},
		{list(0, 1, 2, 3, 4, 5, 7), api.ErrNone},
		{list(math.MaxInt, 0), api.ErrNone},
		{list(0, math.MinInt), api.ErrNone},
		{list(0, 1<<32+1), api.ErrNone},
		{list(0, 0), api.ErrTwice},
		{list(0, 1, 0), api.ErrTwice},
		{list(0, 1, 2, 3, 4, 5, 5), api.ErrTwice},
		{list(6, 1, 2, 3, 4, 5, 6), api.ErrTwice},
		{list(1, 1, 5), api.ErrTwice},
		{list(5, 1, 1), api.ErrNone},
		{list(3, 3, 0), api.ErrNone},
		{list(0, 2, 2, -1), api.ErrTwice},
		{list(0, -1, 0, 0), api.ErrNone},
	}
}

// P3.1: errors of Check, in their order.
func TestCheck(t *testing.T) {
	if grade.MaxBales != 7 {
		t.Fatalf("MaxBales: %d", grade.MaxBales)
	}
	for _, x := range wrong() {
		if e := grade.Check(x.order); e != x.want {
			t.Errorf("Check of %d bales, %v: %d, want %d", len(x.order), x.order[:min(len(x.order), 9)], e, x.want)
		}
	}
	for length := range 5 {
		for l := range lists(length, -1, length+1) {
			if e := grade.Check(l); e != modelCheck(l) {
				t.Errorf("Check of %v: %d, want %d", l, e, modelCheck(l))
			}
		}
	}
	for l := range everyOrder() {
		if e := grade.Check(l); e != api.OK {
			t.Fatalf("Check of %v: %d", l, e)
		}
	}
}

// wantError fails if a call does not just return an error.
func wantError(t *testing.T, c call, a, b, x []int, want api.Errno) {
	t.Helper()
	if r, e := c.run(a, b, x); len(r) != 0 || e != want {
		what := fmt.Sprintf("%s of %d, %d and %d bales", c.name, len(a), len(b), len(x))
		t.Errorf("%s: %v %d, want error %d only", what, r, e, want)
	}
}

// P3.1: all calls of orders return the error of Check before any other one, for a, then b, then x.
func TestErrorOfCheckFirst(t *testing.T) {
	for _, c := range callsOfOrders() {
		for _, x := range wrong() {
			for _, y := range [][]int{nil, list(0), list(0, 0), list(9), one(), make([]int, 8)} {
				wantError(t, c, x.order, y, y, x.want)
				wantError(t, c, x.order, y, one(), x.want)
				wantError(t, c, x.order, one(), y, x.want)
				if c.many > 1 {
					wantError(t, c, one(), x.order, y, x.want)
					wantError(t, c, list(0), x.order, y, x.want)
				}
			}
			if c.many > 2 {
				wantError(t, c, one(), two(), x.order, x.want)
				wantError(t, c, one(), list(0), x.order, x.want)
			}
		}
	}
}

// P3.1: orders must have as many bales.
func TestShape(t *testing.T) {
	for _, c := range callsOfOrders() {
		for m := 1; m <= 7; m++ {
			for n := 1; n <= 7; n++ {
				a, b := orders(m)[0], orders(n)[0]
				if m == n {
					if _, e := c.run(a, b, a); e == api.ErrShape {
						t.Errorf("%s of %d and %d bales: ErrShape", c.name, m, n)
					}
					continue
				}
				if c.many > 1 {
					wantError(t, c, a, b, a, api.ErrShape)
					wantError(t, c, a, b, b, api.ErrShape)
				}
				if c.many > 2 {
					wantError(t, c, a, a, b, api.ErrShape)
				}
			}
		}
	}
	if e := grade.Leads(one(), list(0), list(9)); e != api.ErrShape {
		t.Errorf("Leads with a wrong place and orders of other bales: %d, want ErrShape", e)
	}
}

// P1: each call ends with the extreme numbers, and has the same result the second time.
func TestSameAgain(t *testing.T) {
	numbers := list(0, 1, 2, 3, 6, 7, 8, -1, 64, math.MaxInt, math.MinInt)
	some := [][]int{nil, one(), two(), list(6, 5, 4, 3, 2, 1, 0), make([]int, 7), make([]int, 8)}
	for _, n := range numbers {
		some = append(some, list(n), list(0, n), list(n, 0, 1), list(n, n, n, n))
	}
	for _, c := range calls() {
		for _, a := range some {
			for _, b := range some {
				for _, x := range [][]int{nil, one(), list(0, 1, 2), list(math.MinInt), b} {
					r, e := c.run(a, b, x)
					s, f := c.run(a, b, x)
					if !slices.Equal(r, s) || e != f {
						t.Errorf("%s of %v, %v, %v: %v %d, then %v %d", c.name, a, b, x, r, e, s, f)
					}
				}
			}
		}
	}
	for _, bales := range numbers {
		for _, turned := range numbers {
			n, e := grade.Count(bales, turned)
			if m, f := grade.Count(bales, turned); n != m || e != f {
				t.Errorf("Count of %d, %d: %d %d, then %d %d", bales, turned, n, e, m, f)
			}
		}
	}
}
