package grade_test

import (
	"slices"
	"testing"

	"vitola/api"
	"vitola/grade"
)

// The table of examples of the chapter.
func TestExamplesOfWays(t *testing.T) {
	pairs, e := grade.Differ(one(), two())
	if !slices.Equal(pairs, [][2]int{{0, 2}, {1, 3}}) || e != api.OK {
		t.Errorf("Differ of A and B: %v %d", pairs, e)
	}
	way, e := grade.Way(one(), two())
	wantList(t, "Way of A and B", way, e, list(0, 2))
	way, e = grade.Way(two(), one())
	wantList(t, "Way of B and A", way, e, list(0, 2))
	for _, x := range []struct {
		places []int
		e      api.Errno
	}{
		{list(2, 0), api.OK},
		{list(0), api.ErrLost},
		{list(3), api.ErrNone},
		{list(0, 1, 1, 2), api.OK},
	} {
		if e := grade.Leads(one(), two(), x.places); e != x.e {
			t.Errorf("Leads from A to B, %v: %d, want %d", x.places, e, x.e)
		}
	}
}

func TestExamplesOfBetween(t *testing.T) {
	if is, e := grade.Between(one(), two(), list(3, 1, 0, 2)); !is || e != api.OK {
		t.Errorf("Between A and B, 3 1 0 2: %v %d", is, e)
	}
	if is, e := grade.Between(one(), two(), list(1, 0, 3, 2)); is || e != api.OK {
		t.Errorf("Between A and B, 1 0 3 2: %v %d", is, e)
	}
	if n, e := grade.Joint(one(), two()); n != 4 || e != api.OK {
		t.Errorf("Joint of A and B: %d %d", n, e)
	}
	first, e := grade.First(one(), two())
	wantList(t, "First of A and B", first, e, list(1, 3, 0, 2))
	join, e := grade.Join(one(), list(0, 2, 1, 3))
	wantList(t, "Join of A and 0 2 1 3", join, e, list(3, 2, 1, 0))
	join, e = grade.Join(list(1, 0, 2, 3), list(0, 1, 3, 2))
	wantList(t, "Join of 1 0 2 3 and 0 1 3 2", join, e, list(1, 0, 3, 2))
	meet, e := grade.Meet(one(), two())
	wantList(t, "Meet of A and B", meet, e, list(1, 3, 0, 2))
	meet, e = grade.Meet(one(), list(0, 2, 1, 3))
	wantList(t, "Meet of A and 0 2 1 3", meet, e, list(0, 1, 2, 3))
}

func TestExamplesOfCodes(t *testing.T) {
	code, e := grade.Code(one())
	wantList(t, "Code of A", code, e, list(1, 2, 0, 0))
	order, e := grade.From(list(1, 2, 0, 0))
	wantList(t, "From of 1 2 0 0", order, e, one())
	order, e = grade.From(list(2, 2, 0, 0))
	wantList(t, "From of 2 2 0 0", order, e, list(2, 3, 0, 1))
	if l, e := grade.From(list(0, 0, 1)); len(l) != 0 || e != api.ErrRange {
		t.Errorf("From of 0 0 1: %v %d", l, e)
	}
	if n, e := grade.Major(one()); n != 2 || e != api.OK {
		t.Errorf("Major of A: %d %d", n, e)
	}
	shifted, e := grade.Shift(one())
	wantList(t, "Shift of A", shifted, e, list(1, 0, 3, 2))
	back, e := grade.Back(list(1, 0, 3, 2))
	wantList(t, "Back of 1 0 3 2", back, e, one())
	for _, x := range []struct {
		bales, turned, want int
		e                   api.Errno
	}{
		{4, 2, 5, api.OK},
		{7, 10, 573, api.OK},
		{4, 7, 0, api.ErrRange},
	} {
		if n, e := grade.Count(x.bales, x.turned); n != x.want || e != x.e {
			t.Errorf("Count of %d, %d: %d %d, want %d %d", x.bales, x.turned, n, e, x.want, x.e)
		}
	}
}

func TestExamplesOfErrors(t *testing.T) {
	for _, x := range []struct {
		order []int
		e     api.Errno
	}{
		{nil, api.ErrEmpty},
		{list(0, 2), api.ErrNone},
		{list(0, 0), api.ErrTwice},
	} {
		if e := grade.Check(x.order); e != x.e {
			t.Errorf("Check of %v: %d, want %d", x.order, e, x.e)
		}
	}
	if l, e := grade.Differ(one(), list(0)); len(l) != 0 || e != api.ErrShape {
		t.Errorf("Differ of A and 0: %v %d", l, e)
	}
}
