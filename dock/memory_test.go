package dock_test

import (
	"slices"
	"testing"

	"vitola/dock"
)

// spoil overwrites a list and all the memory behind it.
func spoil(l []int) {
	l = l[:cap(l)]
	for i := range l {
		l[i] = 77
	}
}

// R4: arguments are not changed, neither by a call nor through its result, and results share no memory.
func TestMemory(t *testing.T) {
	for _, l := range [][]int{nil, list(2, 0, 0, 2), list(0, 1, 2, 3), list(3, 2, 1, 0), list(2, 2, 0, 2), list(1), list(9, 1), list(3, 0)} {
		for _, c := range callsOfLists() {
			memory := slices.Repeat(list(55), 12)
			copy(memory, l)
			whole := slices.Clone(memory)
			n, r, e := c.run(4, memory[:len(l)])
			first := slices.Clone(r)
			if !slices.Equal(memory, whole) {
				t.Fatalf("%s of %v changes its argument", c.name, l)
			}
			_, again, _ := c.run(4, memory[:len(l)])
			spoil(r)
			if !slices.Equal(memory, whole) {
				t.Errorf("%s of %v shares memory with its argument", c.name, l)
			}
			if !slices.Equal(again, first) {
				t.Errorf("%s of %v shares memory with another result", c.name, l)
			}
			spoil(memory)
			copy(memory, whole)
			m, s, f := c.run(4, memory[:len(l)])
			if m != n || !slices.Equal(s, first) || f != e {
				t.Errorf("%s of %v: %d %v %d, and later %d %v %d", c.name, l, n, first, e, m, s, f)
			}
		}
	}
}

// R4: results of At share no memory.
func TestMemoryOfAt(t *testing.T) {
	a, _ := dock.At(4, 4, 86)
	b, _ := dock.At(4, 4, 86)
	spoil(a)
	c, _ := dock.At(4, 4, 86)
	if want := list(2, 0, 0, 2); !slices.Equal(b, want) || !slices.Equal(c, want) {
		t.Errorf("At: %v, then %v", b, c)
	}
}

// R3: a nil list and an empty one are equal.
func TestNilAndEmpty(t *testing.T) {
	for bays := 1; bays <= 8; bays++ {
		for _, c := range callsOfLists() {
			n, r, e := c.run(bays, nil)
			m, s, f := c.run(bays, []int{})
			if n != m || !slices.Equal(r, s) || e != f {
				t.Errorf("%s of %d: %d %v %d with nil, %d %v %d with an empty list", c.name, bays, n, r, e, m, s, f)
			}
		}
	}
}
