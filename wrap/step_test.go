package wrap_test

import (
	"slices"
	"testing"

	"vitola/api"
	"vitola/wrap"
)

// P5.6: all numbers of turns with at most two widths.
func TestEvens(t *testing.T) {
	for marks, step := range steps(1, 100) {
		if marks > 40 && (marks+step)%5 != 0 && step > 2 {
			continue
		}
		var want []int
		for turns := 1; turns <= different(marks, step); turns++ {
			if len(modelWidths(modelRing(wound(marks, step, turns)).gaps)) <= 2 {
				want = append(want, turns)
			}
		}
		evens, e := wrap.Evens(marks, step)
		wantList(t, "Evens", list(marks, step), evens, e, want)
	}
}

// P5.7: the smallest turn at each of all marks from one to another one.
func TestFirst(t *testing.T) {
	for marks, step := range steps(1, 100) {
		at := modelMarks(marks, step, different(marks, step))
		stride := 1 + marks/30*5
		for low := step % stride; low < marks; low += stride {
			for high := low; high < marks; high += stride {
				want, f := slices.IndexFunc(at, func(mark int) bool { return low <= mark && mark <= high }), api.OK
				if want < 0 {
					want, f = 0, api.ErrLost
				}
				turn, e := wrap.First(marks, step, low, high)
				wantNumber(t, "First", list(marks, step), list(low, high), turn, e, want, f)
			}
		}
	}
}

// P5.7, F7: with wider bounds the first turn does not become later.
func TestFirstWider(t *testing.T) {
	for marks, step := range steps(1, 25) {
		for low := range marks {
			for high := low; high < marks; high++ {
				turn, e := wrap.First(marks, step, low, high)
				if e != api.OK {
					continue
				}
				for _, wider := range [][2]int{{max(low-1, 0), high}, {low, min(high+1, marks-1)}} {
					if sooner, e := wrap.First(marks, step, wider[0], wider[1]); sooner > turn || e != api.OK {
						t.Fatalf("First of %d, %d: %d to %d: %d, %v: %d %d", marks, step, low, high, turn, wider, sooner, e)
					}
				}
			}
		}
	}
}

// P5.8: all turns that come nearer, up to the first one that is back at mark 0.
func TestNearer(t *testing.T) {
	for marks, step := range steps(1, 100) {
		nearer, e := wrap.Nearer(marks, step)
		wantList(t, "Nearer", list(marks, step), nearer, e, modelNearer(marks, step))
		if last := nearer[len(nearer)-1]; last*step%marks != 0 {
			t.Fatalf("Nearer of %d, %d: %v", marks, step, nearer)
		}
	}
}

// P5.9: all quotients.
func TestChain(t *testing.T) {
	for marks, step := range steps(1, 100) {
		chain, e := wrap.Chain(marks, step)
		wantList(t, "Chain", list(marks, step), chain, e, modelChain(marks, step))
	}
}
