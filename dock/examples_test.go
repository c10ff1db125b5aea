package dock_test

import (
	"slices"
	"testing"

	"vitola/api"
	"vitola/dock"
)

// The table of examples of the chapter.
func TestExamplesOfNext(t *testing.T) {
	for _, x := range []struct {
		taken      []int
		wish, want int
		e          api.Errno
	}{
		{list(0, 2), 0, 1, api.OK},
		{list(2, 3), 2, 0, api.ErrLost},
		{list(1, 1), 0, 0, api.ErrTwice},
	} {
		if bay, e := dock.Next(4, x.taken, x.wish); bay != x.want || e != x.e {
			t.Errorf("Next of 4, %v, %d: %d %d, want %d %d", x.taken, x.wish, bay, e, x.want, x.e)
		}
	}
}

func TestExamplesOfPark(t *testing.T) {
	for _, x := range []struct {
		wishes, parked      []int
		serves              bool
		against, way, lucky int
		e                   api.Errno
	}{
		{list(2, 0, 0, 2), list(2, 0, 1, 3), true, 0, 2, 2, api.ErrClash},
		{list(2, 2, 0, 2), list(2, 3, 0, -1), false, 2, 1, 2, api.OK},
	} {
		if l, e := dock.Park(4, x.wishes); !slices.Equal(l, x.parked) || e != api.OK {
			t.Errorf("Park of 4, %v: %v %d", x.wishes, l, e)
		}
		if is, e := dock.Serves(4, x.wishes); is != x.serves || e != api.OK {
			t.Errorf("Serves of 4, %v: %v %d", x.wishes, is, e)
		}
		if k, e := dock.Against(4, x.wishes); k != x.against || e != x.e {
			t.Errorf("Against of 4, %v: %d %d", x.wishes, k, e)
		}
		if n, e := dock.Way(4, x.wishes); n != x.way || e != api.OK {
			t.Errorf("Way of 4, %v: %d %d", x.wishes, n, e)
		}
		if n, e := dock.Lucky(4, x.wishes); n != x.lucky || e != api.OK {
			t.Errorf("Lucky of 4, %v: %d %d", x.wishes, n, e)
		}
	}
	if e := dock.Proves(4, list(2, 2, 0, 2), 2); e != api.OK {
		t.Errorf("Proves with 2: %d", e)
	}
	if e := dock.Proves(4, list(2, 2, 0, 2), 3); e != api.ErrProof {
		t.Errorf("Proves with 3: %d", e)
	}
}

func TestExamplesOfCount(t *testing.T) {
	for _, x := range [][3]int{{4, 4, 125}, {4, 2, 15}, {4, 0, 1}, {8, 8, 4782969}} {
		if n, e := dock.Count(x[0], x[1]); n != x[2] || e != api.OK {
			t.Errorf("Count of %d, %d: %d %d, want %d", x[0], x[1], n, e, x[2])
		}
	}
	for i, want := range [][]int{list(0, 0), list(0, 1), list(1, 0)} {
		if l, e := dock.At(2, 2, i); !slices.Equal(l, want) || e != api.OK {
			t.Errorf("At of 2, 2, %d: %v %d, want %v", i, l, e, want)
		}
	}
	if l, e := dock.At(2, 2, 3); len(l) != 0 || e != api.ErrRange {
		t.Errorf("At of 2, 2, 3: %v %d", l, e)
	}
	if n, e := dock.Number(2, list(1, 0)); n != 2 || e != api.OK {
		t.Errorf("Number of 2, 1 0: %d %d", n, e)
	}
	if n, e := dock.Number(2, list(1, 1)); n != 0 || e != api.ErrProof {
		t.Errorf("Number of 2, 1 1: %d %d", n, e)
	}
}

func TestExamplesOfTurnsAndWays(t *testing.T) {
	for _, x := range []struct{ places, want []int }{
		{list(2, 2, 0, 2), list(3)},
		{list(2, 0), list(0, 1, 3)},
		{nil, list(0, 1, 2, 3, 4)},
	} {
		if l, e := dock.Turns(4, x.places); !slices.Equal(l, x.want) || e != api.OK {
			t.Errorf("Turns of 4, %v: %v %d, want %v", x.places, l, e, x.want)
		}
	}
	if n, e := dock.Ways(4, list(2, 0, 1, 3)); n != 8 || e != api.OK {
		t.Errorf("Ways of 4, 2 0 1 3: %d %d", n, e)
	}
	if n, e := dock.Ways(4, list(0, 0)); n != 0 || e != api.ErrTwice {
		t.Errorf("Ways of 4, 0 0: %d %d", n, e)
	}
}
