package grade_test

import (
	"slices"
	"testing"

	"vitola/grade"
)

// spoil overwrites a list and all the memory behind it.
func spoil[E any](l []E, with E) {
	l = l[:cap(l)]
	for i := range l {
		l[i] = with
	}
}

// stored returns a list with memory behind it.
func stored(l []int) []int {
	memory := slices.Repeat(list(55), 12)
	copy(memory, l)
	return memory[:len(l)]
}

// R4: arguments are not changed, neither by a call nor through its result, and results share no memory.
func TestMemory(t *testing.T) {
	some := [][]int{nil, list(0), one(), two(), list(0, 1, 2, 3), list(3, 2, 1, 0), list(2, 0, 0), list(1, 2, 0, 0)}
	for _, c := range calls() {
		for _, a := range some {
			for _, b := range some {
				for _, x := range [][]int{nil, list(0, 2), one(), list(7)} {
					checkMemory(t, c, a, b, x)
				}
			}
		}
	}
}

func checkMemory(t *testing.T, c call, a, b, x []int) {
	t.Helper()
	lists := [][]int{stored(a), stored(b), stored(x)}
	same := func() bool {
		for i, l := range [][]int{a, b, x} {
			whole := stored(l)
			if memory := lists[i]; !slices.Equal(memory[:cap(memory)], whole[:cap(whole)]) {
				return false
			}
		}
		return true
	}
	r, e := c.run(lists[0], lists[1], lists[2])
	first := slices.Clone(r)
	if !same() {
		t.Fatalf("%s of %v, %v, %v changes its arguments", c.name, a, b, x)
	}
	again, _ := c.run(lists[0], lists[1], lists[2])
	spoil(r, 77)
	if !same() {
		t.Errorf("%s of %v, %v, %v shares memory with its arguments", c.name, a, b, x)
	}
	if !slices.Equal(again, first) {
		t.Errorf("%s of %v, %v, %v shares memory with another result", c.name, a, b, x)
	}
	for _, l := range lists {
		spoil(l, 77)
	}
	if s, f := c.run(a, b, x); !slices.Equal(again, first) || !slices.Equal(s, first) || f != e {
		t.Errorf("%s of %v, %v, %v: %v %d, and later %v %d", c.name, a, b, x, first, e, s, f)
	}
}

// R4: pairs that Differ returns are nobody else's.
func TestMemoryOfDiffer(t *testing.T) {
	before, _ := grade.Differ(one(), two())
	first := slices.Clone(before)
	again, _ := grade.Differ(one(), two())
	spoil(before, [2]int{77, 77})
	later, _ := grade.Differ(one(), two())
	if !slices.Equal(again, first) || !slices.Equal(later, first) {
		t.Errorf("Differ: %v, then %v, and later %v", first, again, later)
	}
}

// R3: a nil list and an empty one are equal.
func TestNilAndEmpty(t *testing.T) {
	for _, c := range calls() {
		for _, a := range [][]int{{}, one(), list(0)} {
			for _, b := range [][]int{{}, one(), list(0)} {
				r, e := c.run(a, b, nil)
				s, f := c.run(a, b, []int{})
				if !slices.Equal(r, s) || e != f {
					t.Errorf("%s of %v, %v: %v %d with nil, %v %d with an empty list", c.name, a, b, r, e, s, f)
				}
			}
			r, e := c.run(a, nil, one())
			s, f := c.run(a, []int{}, one())
			if !slices.Equal(r, s) || e != f {
				t.Errorf("%s of %v: %v %d with nil, %v %d with an empty list", c.name, a, r, e, s, f)
			}
		}
		r, e := c.run(nil, one(), one())
		s, f := c.run([]int{}, one(), one())
		if !slices.Equal(r, s) || e != f {
			t.Errorf("%s of none: %v %d with nil, %v %d with an empty list", c.name, r, e, s, f)
		}
	}
}
