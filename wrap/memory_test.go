package wrap_test

import (
	"slices"
	"testing"

	"vitola/wrap"
)

// spoil overwrites a list and all the memory behind it.
func spoil(l []int) {
	l = l[:cap(l)]
	for i := range l {
		l[i] = 77
	}
}

// R4: results share no memory with one another, and what becomes of one changes no later one.
func TestMemory(t *testing.T) {
	for _, c := range calls() {
		if c.name == "Widths" {
			continue
		}
		for r := range rings(1, 20) {
			x := input{w: r.w, number: r.w.Turns / 2, low: 0, high: r.w.Marks / 2}
			l, e := c.run(x)
			first := slices.Clone(l)
			again, _ := c.run(x)
			spoil(l)
			if later, f := c.run(x); !slices.Equal(again, first) || !slices.Equal(later, first) || e != f {
				t.Fatalf("%s of %v: %v %d, and later %v, %v %d", c.name, x, first, e, again, later, f)
			}
		}
	}
}

// R4: and so it is with the widths, which are no plain numbers.
func TestMemoryOfWidths(t *testing.T) {
	for r := range rings(1, 20) {
		l, _ := wrap.Widths(r.w)
		first := slices.Clone(l)
		again, _ := wrap.Widths(r.w)
		l = l[:cap(l)]
		for i := range l {
			l[i] = [2]int{77, 77}
		}
		if later, e := wrap.Widths(r.w); !slices.Equal(again, first) || !slices.Equal(later, first) || e != 0 {
			t.Fatalf("Widths of %v: %v, and later %v, %v %d", r.w, first, again, later, e)
		}
	}
}
