package wrap_test

import (
	"math"
	"slices"
	"testing"

	"vitola/api"
	"vitola/wrap"
)

// extremes are numbers that are never right, among them some that look right if they are cut to 32 bits.
func extremes() []int {
	return list(math.MinInt, math.MinInt+1, -1<<32, -1<<31, -101, -2, -1, 101, 1<<31-1, 1<<32, 1<<32+5, 1<<62, math.MaxInt)
}

// P5.1: errors of Check, in their order.
func TestCheck(t *testing.T) {
	if wrap.MaxMarks != 100 {
		t.Fatalf("MaxMarks %d", wrap.MaxMarks)
	}
	for marks := -2; marks <= 103; marks++ {
		for _, step := range append(extremes(), 0, 1, 2, 3, 4, 5, 6, 12, 30, 50, 100, marks-1, marks, marks+1) {
			for _, turns := range append(extremes(), 0, 1, 2, 3, 4, 6, 10, 20, 49, 50, 51, 100, marks-1, marks, marks+1) {
				if w := wound(marks, step, turns); wrap.Check(w) != modelCheck(w) {
					t.Fatalf("Check of %v: %d, want %d", w, wrap.Check(w), modelCheck(w))
				}
			}
		}
	}
	for _, n := range extremes() {
		for _, m := range append(extremes(), 0, 1, 5, 12) {
			for _, k := range append(extremes(), 0, 1, 5, 12) {
				for _, w := range []wrap.Wrapper{wound(n, m, k), wound(m, n, k), wound(m, k, n)} {
					if wrap.Check(w) != modelCheck(w) {
						t.Fatalf("Check of %v: %d, want %d", w, wrap.Check(w), modelCheck(w))
					}
				}
			}
		}
	}
}

// P5.1: of each step, as many turns are right as begin at different marks.
func TestDifferent(t *testing.T) {
	for marks, step := range steps(1, 100) {
		seen := map[int]bool{}
		for turn := 0; !seen[turn*step%marks]; turn++ {
			seen[turn*step%marks] = true
			if e := wrap.Check(wound(marks, step, turn+1)); e != api.OK {
				t.Fatalf("Check of %d, %d, %d: %d", marks, step, turn+1, e)
			}
		}
		for _, more := range list(1, 2, 100, math.MaxInt-len(seen)) {
			if e := wrap.Check(wound(marks, step, len(seen)+more)); e != api.ErrMany {
				t.Fatalf("Check of %d, %d, %d: %d", marks, step, len(seen)+more, e)
			}
		}
	}
}

// wrong are wrappers that are none.
func wrong() []struct {
	w    wrap.Wrapper
	want api.Errno
} {
	return []struct {
		w    wrap.Wrapper
		want api.Errno
	}{
		{wrap.Wrapper{}, api.ErrRange},
		{wound(0, 0, 1), api.ErrRange},
		{wound(-1, 0, 1), api.ErrRange},
		{wound(-5, -7, 1), api.ErrRange},
		{wound(101, 0, 1), api.ErrRange},
		{wound(101, 5, 102), api.ErrRange},
		{wound(math.MinInt, -1, 1), api.ErrRange},
		{wound(math.MaxInt, math.MaxInt-1, 1), api.ErrRange},
		{wound(1<<32+5, 2, 3), api.ErrRange},
		{wound(12, 12, 1), api.ErrRange},
		{wound(12, 13, 1), api.ErrRange},
		{wound(12, -1, 1), api.ErrRange},
		{wound(12, -1, 99), api.ErrRange},
		{wound(12, math.MinInt, 1), api.ErrRange},
		{wound(12, math.MaxInt, math.MaxInt), api.ErrRange},
		{wound(12, 1<<32+5, 2), api.ErrRange},
		{wound(1, 1, 1), api.ErrRange},
		{wound(12, 5, 0), api.ErrRange},
		{wound(12, 5, -1), api.ErrRange},
		{wound(12, 5, math.MinInt), api.ErrRange},
		{wound(12, 0, 0), api.ErrRange},
		{wound(12, 12, 0), api.ErrRange},
		{wound(12, 5, 13), api.ErrMany},
		{wound(12, 8, 4), api.ErrMany},
		{wound(12, 8, 12), api.ErrMany},
		{wound(12, 0, 2), api.ErrMany},
		{wound(1, 0, 2), api.ErrMany},
		{wound(100, 99, 101), api.ErrMany},
		{wound(100, 50, 3), api.ErrMany},
		{wound(7, 3, math.MaxInt), api.ErrMany},
		{wound(12, 5, 1<<32+4), api.ErrMany},
	}
}

// P5.1: functions of a wrapper return at first its error, and nothing else.
func TestErrorOfWrapperFirst(t *testing.T) {
	for _, c := range callsOfWrappers() {
		for _, x := range wrong() {
			for _, n := range append(extremes(), 0, 1, 5, 12) {
				wantError(t, c, input{w: x.w, number: n, low: n, high: n}, x.want)
			}
		}
	}
}

// P5.1: functions of marks and a step return at first ErrRange if these are wrong.
func TestErrorOfStepFirst(t *testing.T) {
	for _, c := range callsOfSteps() {
		for marks := -1; marks <= 102; marks++ {
			for _, step := range append(extremes(), 0, marks-1, marks, marks+1) {
				if 0 <= step && step < marks && marks <= 100 {
					if _, e := c.run(input{w: wound(marks, step, -1)}); e != api.OK {
						t.Errorf("%s of %d, %d: %d", c.name, marks, step, e)
					}
					continue
				}
				for _, n := range list(-1, 0, 1, 5, 200, math.MinInt, math.MaxInt) {
					wantError(t, c, input{w: wound(marks, step, 1), low: n, high: 1}, api.ErrRange)
					wantError(t, c, input{w: wound(marks, step, 1), low: 1, high: n}, api.ErrRange)
				}
			}
		}
		for _, marks := range extremes() {
			for _, step := range append(extremes(), 0, 1, 5) {
				wantError(t, c, input{w: wound(marks, step, 1)}, api.ErrRange)
			}
		}
	}
}

// P5.2, P5.4: what is no turn of the wrapper.
func TestNoTurn(t *testing.T) {
	for r := range rings(1, 45) {
		for _, n := range append(extremes(), r.w.Turns, r.w.Turns+1, different(r.w.Marks, r.w.Step)) {
			for _, c := range callsOfTurns()[:3] {
				wantError(t, c, input{w: r.w, number: n}, api.ErrNone)
			}
		}
	}
}

// P5.2: what is no mark.
func TestNoMark(t *testing.T) {
	for r := range rings(1, 60) {
		for _, n := range append(extremes(), r.w.Marks, r.w.Marks+1) {
			if turn, e := wrap.Which(r.w, n); turn != 0 || e != api.ErrNone {
				t.Fatalf("Which of %v, %d: %d %d", r.w, n, turn, e)
			}
		}
	}
}

// P5.7: errors of First, in their order.
func TestErrorOfFirst(t *testing.T) {
	for marks, step := range steps(1, 30) {
		for low := -2; low <= marks+1; low++ {
			for high := -2; high <= marks+1; high++ {
				want := api.OK
				if low < 0 || low >= marks || high < 0 || high >= marks {
					want = api.ErrNone
				} else if low > high {
					want = api.ErrOrder
				}
				turn, e := wrap.First(marks, step, low, high)
				if want == api.OK && (e == api.OK || e == api.ErrLost && turn == 0) {
					continue
				}
				if turn != 0 || e != want {
					t.Fatalf("First of %d, %d: %d to %d: %d %d, want %d", marks, step, low, high, turn, e, want)
				}
			}
		}
	}
	for _, n := range extremes() {
		for _, m := range append(extremes(), 0, 5, 11, 100) {
			wantNone(t, n, m)
			wantNone(t, m, n)
		}
	}
}

// wantNone fails if one of two numbers is taken for a mark of 100.
func wantNone(t *testing.T, low, high int) {
	t.Helper()
	turn, e := wrap.First(100, 7, low, high)
	wantNumber(t, "First", []int{100, 7}, []int{low, high}, turn, e, 0, api.ErrNone)
}

// P1: each call ends with the extreme numbers, and has the same result the second time.
func TestSameAgain(t *testing.T) {
	numbers := append(extremes(), 0, 1, 5, 12)
	for _, c := range calls() {
		for _, n := range numbers {
			for _, m := range numbers {
				for _, k := range numbers {
					checkAgain(t, c, input{w: wound(n, m, k), number: m, low: m, high: k})
					checkAgain(t, c, input{w: wound(12, m, k), number: n, low: n, high: m})
				}
				checkAgain(t, c, input{w: wound(100, 7, n), number: m, low: m, high: n})
				checkAgain(t, c, input{w: wound(100, 7, 100), number: m, low: m, high: n})
			}
		}
	}
}

func checkAgain(t *testing.T, c call, x input) {
	t.Helper()
	r, e := c.run(x)
	if s, f := c.run(x); !slices.Equal(r, s) || e != f {
		t.Fatalf("%s of %v: %v %d, then %v %d", c.name, x, r, e, s, f)
	}
	if e != api.OK && len(r) != 0 {
		t.Fatalf("%s of %v: %v with the error %d", c.name, x, r, e)
	}
}
