package heap_test

import (
	"slices"
	"testing"

	"vitola/heap"
)

// spoil overwrites a list and all the memory behind it.
func spoil[E any](l []E, with E) {
	l = l[:cap(l)]
	for i := range l {
		l[i] = with
	}
}

// R4: arguments are not changed, neither by a call nor through its result, and results share no memory.
func TestMemory(t *testing.T) {
	strange := heap.Heap{From: 55, To: 55}
	for _, l := range [][]heap.Heap{nil, yard(), heaps(3, 3, 3, 3), heaps(5, 9, 0, 23), heaps(2, 1), heaps(0, 24)} {
		for _, more := range [][]int{nil, list(0, 0, 1, 1, 4), list(3, 3), list(0, 1, 4), list(5, 5)} {
			for _, c := range calls() {
				memory, behind := slices.Repeat([]heap.Heap{strange}, 16), slices.Repeat(list(55), 16)
				copy(memory, l)
				copy(behind, more)
				whole, wholeBehind := slices.Clone(memory), slices.Clone(behind)
				same := func() bool { return slices.Equal(memory, whole) && slices.Equal(behind, wholeBehind) }
				r, e := c.run(memory[:len(l)], 2, behind[:len(more)])
				first := slices.Clone(r)
				if !same() {
					t.Fatalf("%s of %v, %v changes its arguments", c.name, l, more)
				}
				again, _ := c.run(memory[:len(l)], 2, behind[:len(more)])
				spoil(r, 77)
				if !same() {
					t.Errorf("%s of %v, %v shares memory with its arguments", c.name, l, more)
				}
				if !slices.Equal(again, first) {
					t.Errorf("%s of %v, %v shares memory with another result", c.name, l, more)
				}
				spoil(memory, strange)
				spoil(behind, 77)
				if s, f := c.run(l, 2, more); !slices.Equal(again, first) || !slices.Equal(s, first) || f != e {
					t.Errorf("%s of %v, %v: %v %d, and later %v %d", c.name, l, more, first, e, s, f)
				}
			}
		}
	}
}

// R3: a nil list and an empty one are equal.
func TestNilAndEmpty(t *testing.T) {
	for _, c := range calls() {
		for _, n := range list(0, 1, 10) {
			r, e := c.run(nil, n, nil)
			s, f := c.run([]heap.Heap{}, n, []int{})
			if !slices.Equal(r, s) || e != f {
				t.Errorf("%s of none, %d: %v %d with nil, %v %d with empty lists", c.name, n, r, e, s, f)
			}
		}
		for _, l := range [][]heap.Heap{yard(), heaps(2, 1)} {
			r, e := c.run(l, 2, nil)
			s, f := c.run(l, 2, []int{})
			if !slices.Equal(r, s) || e != f {
				t.Errorf("%s of %v: %v %d with nil, %v %d with an empty list", c.name, l, r, e, s, f)
			}
		}
	}
}
