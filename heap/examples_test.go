package heap_test

import (
	"slices"
	"testing"

	"vitola/api"
	"vitola/heap"
)

// The table of examples of the chapter.
func TestExamplesOfCrowd(t *testing.T) {
	for _, x := range []struct {
		from, to, want int
		e              api.Errno
	}{
		{0, 1, 3, api.OK},
		{1, 2, 2, api.OK},
		{4, 5, 0, api.OK},
		{2, 1, 0, api.ErrOrder},
	} {
		if n, e := heap.Crowd(yard(), x.from, x.to); n != x.want || e != x.e {
			t.Errorf("Crowd of Y, %d, %d: %d %d, want %d %d", x.from, x.to, n, e, x.want, x.e)
		}
	}
}

func TestExamplesOfPlan(t *testing.T) {
	for _, x := range []struct {
		heaps []heap.Heap
		hands int
		plan  []int
		e     api.Errno
	}{
		{yard(), 2, list(0, 0, 1, 1, 4), api.OK},
		{yard(), 1, nil, api.ErrLost},
		{yard(), 0, nil, api.ErrRange},
		{nil, 1, nil, api.OK},
	} {
		if p, e := heap.Plan(x.heaps, x.hands); !slices.Equal(p, x.plan) || e != x.e {
			t.Errorf("Plan of %v, %d: %v %d, want %v %d", x.heaps, x.hands, p, e, x.plan, x.e)
		}
	}
	for _, x := range []struct {
		plan []int
		e    api.Errno
	}{
		{list(1, 0, 2, 1, 6), api.OK},
		{list(1, 0, 1, 1, 6), api.ErrOver},
		{list(2, 0, 1, 1, 6), api.ErrRange},
		{list(0, 0), api.ErrShape},
	} {
		if e := heap.Verify(yard(), 2, x.plan); e != x.e {
			t.Errorf("Verify of Y, 2, %v: %d, want %d", x.plan, e, x.e)
		}
	}
}

func TestExamplesOfHands(t *testing.T) {
	if from, to, e := heap.Why(yard(), 1); from != 0 || to != 1 || e != api.OK {
		t.Errorf("Why of Y, 1: %d %d %d", from, to, e)
	}
	if from, to, e := heap.Why(yard(), 2); from != 0 || to != 0 || e != api.ErrClash {
		t.Errorf("Why of Y, 2: %d %d %d", from, to, e)
	}
	if n, e := heap.Fewest(yard()); n != 2 || e != api.OK {
		t.Errorf("Fewest of Y: %d %d", n, e)
	}
	if n, e := heap.Fewest(nil); n != 0 || e != api.OK {
		t.Errorf("Fewest of none: %d %d", n, e)
	}
	if n, e := heap.Finish(yard(), 2); n != 4 || e != api.OK {
		t.Errorf("Finish of Y, 2: %d %d", n, e)
	}
	if n, e := heap.Finish(yard(), 1); n != 0 || e != api.ErrLost {
		t.Errorf("Finish of Y, 1: %d %d", n, e)
	}
	for hands, want := range [][]int{1: list(0, 1, 2, 4), 2: list(0, 1, 2, 3, 4)} {
		if l, e := heap.Keep(yard(), hands); hands > 0 && (!slices.Equal(l, want) || e != api.OK) {
			t.Errorf("Keep of Y, %d: %v %d, want %v", hands, l, e, want)
		}
	}
}

func TestExamplesOfHours(t *testing.T) {
	if l, e := heap.Hours(yard()); !slices.Equal(l, list(0, 1, 4)) || e != api.OK {
		t.Errorf("Hours of Y: %v %d", l, e)
	}
	if l, e := heap.Apart(yard()); !slices.Equal(l, list(1, 2, 4)) || e != api.OK {
		t.Errorf("Apart of Y: %v %d", l, e)
	}
	for _, x := range []struct {
		hours []int
		e     api.Errno
	}{
		{list(0, 1, 5), api.OK},
		{list(1, 5), api.ErrProof},
		{list(1, 1), api.ErrOrder},
		{list(0, 24), api.ErrRange},
	} {
		if e := heap.Meets(yard(), x.hours); e != x.e {
			t.Errorf("Meets of Y, %v: %d, want %d", x.hours, e, x.e)
		}
	}
}

// The example of DOC.md in words: heaps at the hours 0 and 1, at 0, and at 1 need two hands.
func TestExampleInWords(t *testing.T) {
	three := heaps(0, 1, 0, 0, 1, 1)
	if n, e := heap.Fewest(three); n != 2 || e != api.OK {
		t.Errorf("Fewest: %d %d", n, e)
	}
	if n, e := heap.Crowd(three, 0, 1); n != 3 || e != api.OK {
		t.Errorf("Crowd: %d %d", n, e)
	}
}
