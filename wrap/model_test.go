package wrap_test

import (
	"iter"
	"slices"
	"testing"

	"vitola/api"
	"vitola/wrap"
)

// The tests compare the package with a model that follows the words of the chapter and shares nothing with the package.

func list(numbers ...int) []int { return numbers }

// wound returns a wrapper.
func wound(marks, step, turns int) wrap.Wrapper {
	return wrap.Wrapper{Marks: marks, Step: step, Turns: turns}
}

// W and X of the chapter's examples.
func exampleW() wrap.Wrapper { return wound(12, 5, 4) }

func exampleX() wrap.Wrapper { return wound(12, 5, 5) }

// modelDivisor returns the greatest number that divides two others.
func modelDivisor(marks, step int) int {
	greatest := 1
	for d := 1; d <= marks; d++ {
		if marks%d == 0 && step%d == 0 {
			greatest = d
		}
	}
	return greatest
}

// known has the greatest common divisors that were already asked for, 0 for the others.
var known [101][100]int

// divisor returns the greatest common divisor of marks and a step.
func divisor(marks, step int) int {
	if known[marks][step] == 0 {
		known[marks][step] = modelDivisor(marks, step)
	}
	return known[marks][step]
}

// different returns how many turns begin at different marks.
func different(marks, step int) int {
	return marks / divisor(marks, step)
}

func modelCheck(w wrap.Wrapper) api.Errno {
	if w.Marks < 1 || w.Marks > 100 {
		return api.ErrRange
	}
	if w.Step < 0 || w.Step > w.Marks-1 {
		return api.ErrRange
	}
	if w.Turns < 1 {
		return api.ErrRange
	}
	if w.Turns > different(w.Marks, w.Step) {
		return api.ErrMany
	}
	return api.OK
}

// modelMarks returns the marks of so many turns, the first one at mark 0 and each further one so many marks farther on.
func modelMarks(marks, step, turns int) []int {
	found := list(0)
	mark := 0
	for len(found) < turns {
		for range step {
			mark++
			if mark == marks {
				mark = 0
			}
		}
		found = append(found, mark)
	}
	return found
}

// A ring is a wrapper with what the model knows of it.
type ring struct {
	w     wrap.Wrapper
	marks []int // of the turns
	round []int // turns as they follow one another
	gaps  []int // behind the turns of the round
}

// modelRing goes once around the circle.
func modelRing(w wrap.Wrapper) ring {
	r := ring{w: w, marks: modelMarks(w.Marks, w.Step, w.Turns)}
	at := slices.Repeat(list(-1), w.Marks)
	for turn, mark := range r.marks {
		at[mark] = turn
	}
	for _, turn := range at {
		if turn >= 0 {
			r.round = append(r.round, turn)
			r.gaps = append(r.gaps, 0)
		}
		r.gaps[len(r.gaps)-1]++
	}
	return r
}

// follows returns the turn that follows another one, and the one that this one follows.
func (r ring) follows(turn int) (next, before int) {
	place := slices.Index(r.round, turn)
	next, before = r.round[0], r.round[len(r.round)-1]
	if place+1 < len(r.round) {
		next = r.round[place+1]
	}
	if place > 0 {
		before = r.round[place-1]
	}
	return next, before
}

// modelWidths returns all widths and how many gaps have them.
func modelWidths(gaps []int) [][2]int {
	var found [][2]int
	for width := 1; width <= 100; width++ {
		many := 0
		for _, gap := range gaps {
			if gap == width {
				many++
			}
		}
		if many > 0 {
			found = append(found, [2]int{width, many})
		}
	}
	return found
}

// modelDistance returns how far a mark is from mark 0, on either side.
func modelDistance(marks, mark int) int {
	if mark > marks-mark {
		return marks - mark
	}
	return mark
}

// modelNearer compares each turn with all turns before it.
func modelNearer(marks, step int) []int {
	var found []int
	last := different(marks, step)
	at := modelMarks(marks, step, last+1)
	for turn := 1; turn <= last; turn++ {
		nearer := !slices.ContainsFunc(at[1:turn], func(mark int) bool {
			return modelDistance(marks, mark) <= modelDistance(marks, at[turn])
		})
		if nearer {
			found = append(found, turn)
		}
	}
	return found
}

// modelChain takes the smaller number away from the greater one as often as it can be.
func modelChain(marks, step int) []int {
	var found []int
	for step > 0 {
		quotient := 0
		for marks >= step {
			marks -= step
			quotient++
		}
		found = append(found, quotient)
		marks, step = step, marks
	}
	return found
}

// steps gives all marks and steps of marks from a number to another one.
func steps(from, to int) iter.Seq2[int, int] {
	return func(yield func(marks, step int) bool) {
		for marks := from; marks <= to; marks++ {
			for step := range marks {
				if !yield(marks, step) {
					return
				}
			}
		}
	}
}

// rings gives all wrappers of all marks from a number to another one; of more than 40 marks it gives some of the numbers of turns.
func rings(from, to int) iter.Seq[ring] {
	return func(yield func(ring) bool) {
		for marks, step := range steps(from, to) {
			last := different(marks, step)
			for turns := 1; turns <= last; turns++ {
				if marks > 40 && turns > 3 && turns < last-2 && (turns+step)%9 != 0 {
					continue
				}
				if !yield(modelRing(wound(marks, step, turns))) {
					return
				}
			}
		}
	}
}

// An input has all that calls may take.
type input struct {
	w         wrap.Wrapper
	number    int // a turn or a mark
	low, high int
}

// A call takes what it needs of an input; it has numbers as its result, none if there are only zero values.
type call struct {
	name string
	run  func(x input) ([]int, api.Errno)
}

// noted returns numbers as a result.
func noted(e api.Errno, numbers ...int) ([]int, api.Errno) {
	if slices.Max(numbers) == 0 && slices.Min(numbers) == 0 {
		return nil, e
	}
	return numbers, e
}

// flat returns pairs as a result.
func flat(pairs [][2]int, e api.Errno) ([]int, api.Errno) {
	var l []int
	for _, p := range pairs {
		l = append(l, p[:]...)
	}
	return l, e
}

// callsOfTurns are the calls that have a wrapper and a number.
func callsOfTurns() []call {
	return []call{
		{"Mark", func(x input) ([]int, api.Errno) {
			n, e := wrap.Mark(x.w, x.number)
			return noted(e, n)
		}},
		{"Next", func(x input) ([]int, api.Errno) {
			n, e := wrap.Next(x.w, x.number)
			return noted(e, n)
		}},
		{"Before", func(x input) ([]int, api.Errno) {
			n, e := wrap.Before(x.w, x.number)
			return noted(e, n)
		}},
		{"Which", func(x input) ([]int, api.Errno) {
			n, e := wrap.Which(x.w, x.number)
			return noted(e, n)
		}},
	}
}

// callsOfWrappers are all calls that have a wrapper.
func callsOfWrappers() []call {
	return append(callsOfTurns(), []call{
		{"Check", func(x input) ([]int, api.Errno) { return nil, wrap.Check(x.w) }},
		{"Round", func(x input) ([]int, api.Errno) { return wrap.Round(x.w) }},
		{"Gaps", func(x input) ([]int, api.Errno) { return wrap.Gaps(x.w) }},
		{"Widths", func(x input) ([]int, api.Errno) { return flat(wrap.Widths(x.w)) }},
		{"Divides", func(x input) ([]int, api.Errno) {
			from, to, e := wrap.Divides(x.w)
			return noted(e, from, to)
		}},
	}...)
}

// callsOfSteps are the calls that have marks and a step.
func callsOfSteps() []call {
	return []call{
		{"Evens", func(x input) ([]int, api.Errno) { return wrap.Evens(x.w.Marks, x.w.Step) }},
		{"First", func(x input) ([]int, api.Errno) {
			n, e := wrap.First(x.w.Marks, x.w.Step, x.low, x.high)
			return noted(e, n)
		}},
		{"Nearer", func(x input) ([]int, api.Errno) { return wrap.Nearer(x.w.Marks, x.w.Step) }},
		{"Chain", func(x input) ([]int, api.Errno) { return wrap.Chain(x.w.Marks, x.w.Step) }},
	}
}

// calls are all calls.
func calls() []call {
	return slices.Concat(callsOfWrappers(), callsOfSteps())
}

// wantError fails if a call does not just return an error.
func wantError(t *testing.T, c call, x input, want api.Errno) {
	t.Helper()
	if r, e := c.run(x); len(r) != 0 || e != want {
		t.Errorf("%s of %v: %v %d, want error %d only", c.name, x, r, e, want)
	}
}

// wantList fails if a call that has a list as its result has another one.
func wantList(t *testing.T, what string, of any, r []int, e api.Errno, want []int) {
	t.Helper()
	if !slices.Equal(r, want) || e != api.OK {
		t.Fatalf("%s of %v: %v %d, want %v", what, of, r, e, want)
	}
}

// wantNumber fails if a call that has a number as its result has another one.
func wantNumber(t *testing.T, what string, of, with any, n int, e api.Errno, want int, f api.Errno) {
	t.Helper()
	if n != want || e != f {
		t.Fatalf("%s of %v, %v: %d %d, want %d %d", what, of, with, n, e, want, f)
	}
}
