package blend_test

import (
	"slices"
	"testing"

	"vitola/api"
	"vitola/blend"
)

// The table of examples of the chapter.
func TestExamplesOfRound(t *testing.T) {
	for _, x := range []struct {
		leaves, size, want int
		e                  api.Errno
	}{
		{4, 2, 6, api.OK},
		{10, 5, 252, api.OK},
		{4, 5, 0, api.ErrRange},
	} {
		if n, e := blend.Count(x.leaves, x.size); n != x.want || e != x.e {
			t.Errorf("Count of %d, %d: %d %d, want %d %d", x.leaves, x.size, n, e, x.want, x.e)
		}
	}
	for number, b := range [][]int{{0, 1}, {1, 2}, {0, 2}, {2, 3}, {1, 3}, {0, 3}} {
		if l, e := blend.Nth(4, 2, number); !slices.Equal(l, b) || e != api.OK {
			t.Errorf("Nth of 4, 2: %d: %v %d, want %v", number, l, e, b)
		}
		if n, e := blend.Number(4, b); n != number || e != api.OK {
			t.Errorf("Number of 4: %v: %d %d, want %d", b, n, e, number)
		}
	}
	if n, e := blend.Number(4, nil); n != 0 || e != api.OK {
		t.Errorf("Number of 4: none: %d %d", n, e)
	}
	if l, e := blend.Nth(4, 2, 6); len(l) != 0 || e != api.ErrNone {
		t.Errorf("Nth of 4, 2: 6: %v %d", l, e)
	}
}

func TestExamplesOfNext(t *testing.T) {
	for _, x := range []struct {
		b, next []int
		out, in int
		e       api.Errno
	}{
		{list(0, 2), list(2, 3), 0, 3, api.OK},
		{list(0, 3), list(0, 1), 3, 1, api.OK},
		{list(0, 1, 2, 3), nil, 0, 0, api.ErrLost},
	} {
		next, out, in, e := blend.Next(4, x.b)
		if !slices.Equal(next, x.next) || out != x.out || in != x.in || e != x.e {
			t.Errorf("Next of 4: %v: %v with %d and %d, %d", x.b, next, out, in, e)
		}
	}
}

func TestExamplesOfWays(t *testing.T) {
	if n, e := blend.Away(6, list(0, 1, 2), list(1, 4, 5)); n != 2 || e != api.OK {
		t.Errorf("Away of 6: 0 1 2 and 1 4 5: %d %d", n, e)
	}
	way, e := blend.Way(6, list(0, 1, 2), list(1, 4, 5))
	if !same(way, [][]int{{0, 1, 2}, {1, 2, 4}, {1, 4, 5}}) || e != api.OK {
		t.Errorf("Way of 6: 0 1 2 and 1 4 5: %v %d", way, e)
	}
	if n, e := blend.Away(4, list(0, 1), list(0)); n != 0 || e != api.ErrShape {
		t.Errorf("Away of 4: 0 1 and 0: %d %d", n, e)
	}
	if e := blend.Check(4, list(1, 0)); e != api.ErrOrder {
		t.Errorf("Check of 4: 1 0: %d", e)
	}
	if e := blend.Check(4, list(4)); e != api.ErrNone {
		t.Errorf("Check of 4: 4: %d", e)
	}
}

func TestExamplesOfRecipe(t *testing.T) {
	if w, e := blend.Weight(recipe(), list(0, 1, 2)); w != 16 || e != api.OK {
		t.Errorf("Weight of K: 0 1 2: %d %d", w, e)
	}
	for _, x := range []struct {
		size, want int
		e          api.Errno
	}{
		{3, 2, api.OK},
		{0, 0, api.OK},
		{6, 0, api.ErrRange},
	} {
		if n, e := blend.Fits(recipe(), x.size); n != x.want || e != x.e {
			t.Errorf("Fits of K: %d: %d %d, want %d %d", x.size, n, e, x.want, x.e)
		}
	}
	for _, x := range []struct {
		b, want []int
		e       api.Errno
	}{
		{list(0, 1, 2), list(1, 2, 3), api.OK},
		{list(1, 3, 4), list(1, 3, 4), api.OK},
		{list(0), nil, api.ErrLost},
		{list(0, 1, 2, 3, 4), nil, api.ErrLost},
	} {
		if b, e := blend.Nearest(recipe(), x.b); !slices.Equal(b, x.want) || e != x.e {
			t.Errorf("Nearest of K: %v: %v %d, want %v %d", x.b, b, e, x.want, x.e)
		}
	}
	for _, x := range []struct {
		changes, low, high int
		e                  api.Errno
	}{
		{0, 16, 16, api.OK},
		{1, 10, 22, api.OK},
		{2, 10, 22, api.OK},
		{11, 0, 0, api.ErrRange},
	} {
		if low, high, e := blend.Reach(recipe(), list(0, 1, 2), x.changes); low != x.low || high != x.high || e != x.e {
			t.Errorf("Reach of K: 0 1 2 with %d: %d and %d, %d", x.changes, low, high, e)
		}
	}
}
