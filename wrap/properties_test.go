package wrap_test

import (
	"slices"
	"testing"

	"vitola/api"
	"vitola/wrap"
)

// every gives each wrapper of up to 40 marks, and samples of those with more, to a check of a property.
func every(t *testing.T, check func(t *testing.T, w wrap.Wrapper)) {
	t.Helper()
	for r := range rings(1, 100) {
		check(t, r.w)
	}
}

// P5.10: gaps have at most three widths, and of three the greatest one is the sum of both others.
func TestThreeGaps(t *testing.T) {
	three := 0
	every(t, func(t *testing.T, w wrap.Wrapper) {
		widths, e := wrap.Widths(w)
		if len(widths) < 1 || len(widths) > 3 || e != api.OK {
			t.Fatalf("Widths of %v: %v %d", w, widths, e)
		}
		if len(widths) == 3 {
			three++
			if widths[2][0] != widths[0][0]+widths[1][0] {
				t.Fatalf("Widths of %v: %v", w, widths)
			}
		}
	})
	if three == 0 {
		t.Error("no wrapper has three widths")
	}
}

// F2: the gaps go once around the circle, and widths count each of them once.
func TestGapsCounted(t *testing.T) {
	every(t, func(t *testing.T, w wrap.Wrapper) {
		gaps, _ := wrap.Gaps(w)
		widths, _ := wrap.Widths(w)
		sum, many, all := 0, 0, 0
		for _, gap := range gaps {
			sum += gap
		}
		for _, x := range widths {
			many += x[1]
			all += x[0] * x[1]
		}
		if sum != w.Marks || len(gaps) != w.Turns || many != w.Turns || all != w.Marks {
			t.Fatalf("%v: Gaps %v, Widths %v", w, gaps, widths)
		}
	})
}

// P5.11: how many gaps have which width, and which turn follows which one.
func TestHowMany(t *testing.T) {
	every(t, func(t *testing.T, w wrap.Wrapper) {
		if w.Turns == 1 {
			return
		}
		a, _ := wrap.Next(w, 0)
		b, _ := wrap.Before(w, 0)
		m := w.Turns
		if a+b < m {
			t.Fatalf("%v: a %d, b %d", w, a, b)
		}
		atA, _ := wrap.Mark(w, a)
		atB, _ := wrap.Mark(w, b)
		left, right := atA, w.Marks-atB
		want := slices.Concat(slices.Repeat(list(left), m-a), slices.Repeat(list(right), m-b), slices.Repeat(list(left+right), a+b-m))
		gaps, _ := wrap.Gaps(w)
		slices.Sort(want)
		if found := slices.Sorted(slices.Values(gaps)); !slices.Equal(found, want) {
			t.Fatalf("%v: gaps %v, want %v", w, found, want)
		}
		round, _ := wrap.Round(w)
		for i, k := range round {
			next := k - b
			if k < m-a {
				next = k + a
			} else if k < b {
				next = k + a - b
			}
			if round[(i+1)%m] != next {
				t.Fatalf("%v: %d follows %d, want %d", w, round[(i+1)%m], k, next)
			}
		}
	})
}

// gapBehind returns the gap behind a turn.
func gapBehind(w wrap.Wrapper, turn int) int {
	round, _ := wrap.Round(w)
	gaps, _ := wrap.Gaps(w)
	return gaps[slices.Index(round, turn)]
}

// P5.12: the gap that is divided has the greatest width.
func TestDividedIsGreatest(t *testing.T) {
	every(t, func(t *testing.T, w wrap.Wrapper) {
		from, to, e := wrap.Divides(w)
		if e != api.OK {
			return
		}
		gaps, _ := wrap.Gaps(w)
		if gap := gapBehind(w, from); gap != slices.Max(gaps) {
			t.Fatalf("Divides of %v: %d and %d, a gap of %d of %v", w, from, to, gap, gaps)
		}
		if next, _ := wrap.Next(w, from); next != to {
			t.Fatalf("Divides of %v: %d and %d, but %d follows", w, from, to, next)
		}
	})
}

// P5.13: with the step to the left the same gaps are met in the opposite order.
func TestLeftHand(t *testing.T) {
	every(t, func(t *testing.T, w wrap.Wrapper) {
		if w.Step == 0 {
			return
		}
		left := wound(w.Marks, w.Marks-w.Step, w.Turns)
		gaps, _ := wrap.Gaps(w)
		slices.Reverse(gaps)
		other, e := wrap.Gaps(left)
		wantList(t, "Gaps", left, other, e, gaps)
		widths, _ := wrap.Widths(w)
		if same, e := wrap.Widths(left); !slices.Equal(same, widths) || e != api.OK {
			t.Fatalf("Widths of %v: %v, of %v: %v %d", w, widths, left, same, e)
		}
		round, _ := wrap.Round(w)
		slices.Reverse(round[1:])
		other, e = wrap.Round(left)
		wantList(t, "Round", left, other, e, round)
	})
	for marks, step := range steps(1, 100) {
		if step == 0 {
			continue
		}
		evens, _ := wrap.Evens(marks, step)
		other, e := wrap.Evens(marks, marks-step)
		wantList(t, "Evens", list(marks, marks-step), other, e, evens)
		nearer, _ := wrap.Nearer(marks, step)
		other, e = wrap.Nearer(marks, marks-step)
		wantList(t, "Nearer", list(marks, marks-step), other, e, nearer)
	}
}

// P5.14: with one turn more no gap becomes wider; the one that is divided becomes two.
func TestOneTurnMore(t *testing.T) {
	every(t, func(t *testing.T, w wrap.Wrapper) {
		from, _, e := wrap.Divides(w)
		if e != api.OK {
			return
		}
		more := wound(w.Marks, w.Step, w.Turns+1)
		round, _ := wrap.Round(w)
		gaps, _ := wrap.Gaps(w)
		later, _ := wrap.Round(more)
		narrower, _ := wrap.Gaps(more)
		place := slices.Index(later, w.Turns)
		if later[place-1] != from || narrower[place-1]+narrower[place] != gaps[place-1] {
			t.Fatalf("%v: gaps %v, with one turn more %v", w, gaps, narrower)
		}
		if !slices.Equal(slices.Delete(later, place, place+1), round) {
			t.Fatalf("%v: round %v, with one turn more another one", w, round)
		}
		for i, gap := range slices.Delete(narrower, place, place+1) {
			if gap > gaps[i] || i != place-1 && gap != gaps[i] {
				t.Fatalf("%v: the gap behind %d of %v becomes %d", w, round[i], gaps, gap)
			}
		}
	})
}

// P5.15: the chain leads back to marks and step.
func TestChainLeadsBack(t *testing.T) {
	for marks, step := range steps(1, 100) {
		chain, e := wrap.Chain(marks, step)
		if e != api.OK {
			t.Fatalf("Chain of %d, %d: %d", marks, step, e)
		}
		greater, smaller := divisor(marks, step), 0
		for _, quotient := range slices.Backward(chain) {
			greater, smaller = greater*quotient+smaller, greater
		}
		if greater != marks || smaller != step {
			t.Fatalf("Chain of %d, %d: %v leads back to %d and %d", marks, step, chain, greater, smaller)
		}
	}
}

// F3: no turn that is left out is nearer than the last one before it that is named.
func TestNearest(t *testing.T) {
	for marks, step := range steps(1, 100) {
		nearer, _ := wrap.Nearer(marks, step)
		for turn := 1; turn <= different(marks, step); turn++ {
			place, found := slices.BinarySearch(nearer, turn)
			if found {
				continue
			}
			best := nearer[place-1] * step % marks
			if modelDistance(marks, turn*step%marks) < modelDistance(marks, best) {
				t.Fatalf("Nearer of %d, %d: %v, but turn %d", marks, step, nearer, turn)
			}
		}
	}
}
