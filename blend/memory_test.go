package blend_test

import (
	"slices"
	"testing"

	"vitola/api"
	"vitola/blend"
)

// spoil overwrites lists and all the memory behind them.
func spoil(lists [][]int) {
	for _, l := range lists {
		l = l[:cap(l)]
		for i := range l {
			l[i] = 77
		}
	}
}

// cloned returns lists with memory of their own.
func cloned(lists [][]int) [][]int {
	var other [][]int
	for _, l := range lists {
		other = append(other, slices.Clone(l))
	}
	return other
}

// stored returns a list with memory behind it.
func stored(l []int) []int {
	memory := slices.Repeat(list(55), 14)
	copy(memory, l)
	return memory[:len(l)]
}

// inputs are inputs for all calls, with and without errors.
func inputs() []input {
	var found []input
	some := [][]int{nil, list(0), list(0, 1, 2), list(1, 3, 4), list(0, 1, 2, 3, 4), list(2, 1), list(5)}
	for _, a := range some {
		for _, b := range some {
			for number := range 5 {
				found = append(found, input{leaves: 5, r: recipe(), a: a, b: b, number: number, size: number})
			}
		}
	}
	return found
}

// R4: arguments are not changed, neither by a call nor through its result, and results share no memory.
func TestMemory(t *testing.T) {
	for _, c := range calls() {
		for _, x := range inputs() {
			own := x
			own.a, own.b, own.r.Weights = stored(x.a), stored(x.b), stored(x.r.Weights)
			checkMemory(t, c, x, own)
		}
	}
}

// checkMemory makes a call with an input that has memory of its own and is equal to x.
func checkMemory(t *testing.T, c call, x, own input) {
	t.Helper()
	unchanged := func() bool {
		memory := [][]int{own.a, own.b, own.r.Weights}
		for i, l := range [][]int{x.a, x.b, x.r.Weights} {
			if whole := stored(l); !slices.Equal(memory[i][:cap(memory[i])], whole[:cap(whole)]) {
				return false
			}
		}
		return true
	}
	r, e := c.run(own)
	first := cloned(r)
	if !unchanged() {
		t.Fatalf("%s of %v changes its arguments", c.name, x)
	}
	again, _ := c.run(own)
	spoil(r)
	if !unchanged() {
		t.Fatalf("%s of %v shares memory with its arguments", c.name, x)
	}
	if !same(again, first) {
		t.Fatalf("%s of %v shares memory with another result", c.name, x)
	}
	spoil([][]int{own.a, own.b, own.r.Weights})
	if s, f := c.run(x); !same(again, first) || !same(s, first) || f != e {
		t.Fatalf("%s of %v: %v %d, and later %v %d", c.name, x, first, e, s, f)
	}
}

// R4: the blends of a way share no memory.
func TestMemoryOfWay(t *testing.T) {
	for _, b := range blends(6, 3) {
		way, _ := blend.Way(6, list(0, 2, 4), b)
		for i := range way {
			want := cloned(way)
			spoil(way[i : i+1])
			for k := range way {
				if k != i && !slices.Equal(way[k], want[k]) {
					t.Fatalf("Way from 0 2 4 to %v: %d shares memory with %d", b, k, i)
				}
			}
		}
	}
}

// R3: a nil list and an empty one are equal.
func TestNilAndEmpty(t *testing.T) {
	for _, c := range calls() {
		for _, x := range inputs() {
			checkEmpty(t, c, x)
			x.r.Weights = nil
			checkEmpty(t, c, x)
		}
	}
	for _, x := range []struct {
		e    api.Errno
		want api.Errno
	}{
		{blend.Check(3, nil), api.OK},
		{blend.Check(3, list()), api.OK},
		{blend.CheckRecipe(blend.Recipe{Weights: list()}), api.ErrEmpty},
		{blend.CheckRecipe(blend.Recipe{Weights: nil}), api.ErrEmpty},
	} {
		if x.e != x.want {
			t.Errorf("check of nothing: %d, want %d", x.e, x.want)
		}
	}
}

// checkEmpty makes a call with nil lists, and with empty ones instead.
func checkEmpty(t *testing.T, c call, x input) {
	t.Helper()
	y := x
	if len(x.a) == 0 {
		y.a = []int{}
	}
	if len(x.b) == 0 {
		y.b = []int{}
	}
	if len(x.r.Weights) == 0 {
		y.r.Weights = []int{}
	}
	r, e := c.run(x)
	if s, f := c.run(y); !same(r, s) || e != f {
		t.Fatalf("%s of %v: %v %d with nil, %v %d with an empty list", c.name, x, r, e, s, f)
	}
}
