package store_test

import (
	"slices"
	"testing"

	"vitola/api"
)

// spoil overwrites a list and all the memory behind it.
func spoil(l []int) {
	l = l[:cap(l)]
	for i := range l {
		l[i] = 77
	}
}

// inputs gives arguments of all calls: pairs of divisions, and a number of boxes with a number.
func inputs() []input {
	var all []input
	for a, b := range pairs(4, 20) {
		all = append(all, input{a: a, b: b, boxes: len(a), number: 1})
	}
	return all
}

// R4: results share no memory with one another, and what becomes of one changes no later one.
func TestMemory(t *testing.T) {
	for _, x := range inputs() {
		for _, c := range calls() {
			l, _ := c.run(x)
			first := slices.Clone(l)
			again, _ := c.run(x)
			spoil(l)
			if later, _ := c.run(x); !slices.Equal(again, first) || !slices.Equal(later, first) {
				t.Fatalf("%s of %v: %v, and later %v, %v", c.name, x, first, again, later)
			}
		}
	}
}

// longer returns a copy of a list that goes on behind its end.
func longer(l []int) []int {
	return append(slices.Clone(l), 5, 6, 7)[:len(l)]
}

func whole(l []int) []int { return slices.Clone(l[:cap(l)]) }

// R4: arguments stay as they are, with all the memory behind them, and what becomes of them changes no result.
func TestArguments(t *testing.T) {
	for _, of := range inputs() {
		for _, c := range calls() {
			x := input{a: longer(of.a), b: longer(of.b), boxes: of.boxes, number: of.number}
			a, b := whole(x.a), whole(x.b)
			l, _ := c.run(x)
			if !slices.Equal(a, whole(x.a)) || !slices.Equal(b, whole(x.b)) {
				t.Fatalf("%s of %v changed its arguments: %v", c.name, of, x)
			}
			first := slices.Clone(l)
			spoil(x.a)
			spoil(x.b)
			if !slices.Equal(l, first) {
				t.Fatalf("%s of %v: %v, and with another argument %v", c.name, of, first, l)
			}
		}
	}
}

// R4: two equal arguments may be the same memory, and a result, changed, is an argument like any other.
func TestChangedResult(t *testing.T) {
	for division := range divisions(5) {
		for _, name := range []string{"Join", "Meet"} {
			wantResult(t, name, input{a: division, b: division}, division...)
		}
	}
	l, e := named("Of").run(input{a: list(7, 3, 7)})
	if e != api.OK || len(l) != 3 {
		t.Fatalf("Of of 7, 3, 7: %v %d", l, e)
	}
	l[2] = 1
	wantResult(t, "Number", input{a: l}, 3)
	l[1] = 2
	wantError(t, named("Number"), input{a: l}, api.ErrOrder)
}
