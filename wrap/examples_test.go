package wrap_test

import (
	"slices"
	"testing"

	"vitola/api"
	"vitola/wrap"
)

// The table of examples of the chapter.
func TestExamplesOfTurns(t *testing.T) {
	w := exampleW()
	for _, x := range []struct {
		name      string
		call      func(wrap.Wrapper, int) (int, api.Errno)
		with, out int
		e         api.Errno
	}{
		{"Mark", wrap.Mark, 3, 3, api.OK},
		{"Mark", wrap.Mark, 4, 0, api.ErrNone},
		{"Which", wrap.Which, 10, 2, api.OK},
		{"Which", wrap.Which, 8, 0, api.ErrLost},
		{"Next", wrap.Next, 1, 2, api.OK},
		{"Next", wrap.Next, 2, 0, api.OK},
		{"Before", wrap.Before, 0, 2, api.OK},
		{"Before", wrap.Before, 1, 3, api.OK},
	} {
		n, e := x.call(w, x.with)
		wantNumber(t, x.name, w, x.with, n, e, x.out, x.e)
	}
}

func TestExamplesOfGaps(t *testing.T) {
	for _, x := range []struct {
		w           wrap.Wrapper
		round, gaps []int
		widths      [][2]int
	}{
		{exampleW(), list(0, 3, 1, 2), list(3, 2, 5, 2), [][2]int{{2, 2}, {3, 1}, {5, 1}}},
		{exampleX(), list(0, 3, 1, 4, 2), list(3, 2, 3, 2, 2), [][2]int{{2, 3}, {3, 2}}},
		{wound(12, 5, 1), list(0), list(12), [][2]int{{12, 1}}},
	} {
		round, e := wrap.Round(x.w)
		wantList(t, "Round", x.w, round, e, x.round)
		gaps, e := wrap.Gaps(x.w)
		wantList(t, "Gaps", x.w, gaps, e, x.gaps)
		if widths, e := wrap.Widths(x.w); !slices.Equal(widths, x.widths) || e != api.OK {
			t.Errorf("Widths of %v: %v %d, want %v", x.w, widths, e, x.widths)
		}
	}
	for _, x := range []struct {
		w        wrap.Wrapper
		from, to int
		e        api.Errno
	}{
		{exampleW(), 1, 2, api.OK},
		{exampleX(), 0, 3, api.OK},
		{wound(12, 5, 12), 0, 0, api.ErrLost},
		{wound(12, 5, 1), 0, 0, api.OK},
		{wound(1, 0, 1), 0, 0, api.ErrLost},
	} {
		if from, to, e := wrap.Divides(x.w); from != x.from || to != x.to || e != x.e {
			t.Errorf("Divides of %v: %d and %d, %d", x.w, from, to, e)
		}
	}
}

func TestExamplesOfSteps(t *testing.T) {
	for _, x := range []struct {
		name        string
		call        func(marks, step int) ([]int, api.Errno)
		marks, step int
		want        []int
	}{
		{"Evens", wrap.Evens, 12, 5, list(1, 2, 3, 5, 7, 8, 9, 10, 11, 12)},
		{"Evens", wrap.Evens, 3, 0, list(1)},
		{"Nearer", wrap.Nearer, 12, 5, list(1, 2, 5, 12)},
		{"Nearer", wrap.Nearer, 12, 4, list(1, 3)},
		{"Nearer", wrap.Nearer, 3, 0, list(1)},
		{"Chain", wrap.Chain, 12, 5, list(2, 2, 2)},
		{"Chain", wrap.Chain, 12, 4, list(3)},
		{"Chain", wrap.Chain, 12, 7, list(1, 1, 2, 2)},
		{"Chain", wrap.Chain, 3, 0, nil},
	} {
		l, e := x.call(x.marks, x.step)
		wantList(t, x.name, list(x.marks, x.step), l, e, x.want)
	}
	for _, x := range []struct {
		marks, step, low, high, want int
		e                            api.Errno
	}{
		{12, 5, 1, 2, 5, api.OK},
		{12, 5, 11, 11, 7, api.OK},
		{12, 5, 6, 5, 0, api.ErrOrder},
		{12, 4, 1, 3, 0, api.ErrLost},
	} {
		turn, e := wrap.First(x.marks, x.step, x.low, x.high)
		wantNumber(t, "First", list(x.marks, x.step), list(x.low, x.high), turn, e, x.want, x.e)
	}
}

func TestExamplesOfCheck(t *testing.T) {
	if e := wrap.Check(wound(12, 8, 4)); e != api.ErrMany {
		t.Errorf("Check of 12 marks, step 8, 4 turns: %d", e)
	}
	if e := wrap.Check(wound(12, 12, 1)); e != api.ErrRange {
		t.Errorf("Check of 12 marks, step 12, 1 turn: %d", e)
	}
	if e := wrap.Check(exampleW()); e != api.OK {
		t.Errorf("Check of W: %d", e)
	}
}
