package shade_test

import (
	"testing"

	"vitola/api"
	"vitola/shade"
)

// s are the shades of the table of examples of the chapter.
func s() []int { return list(10, 40, 12, 30, 11) }

func TestExamplesOfBoxes(t *testing.T) {
	for _, x := range []struct {
		round                     bool
		step, sum, least, why, of int
		box, wide                 []int
	}{
		{false, 30, 95, 18, 2, 97, list(10, 11, 12, 30, 40), list(11, 30, 10, 40, 12)},
		{true, 30, 96, 28, 2, 98, list(10, 11, 12, 40, 30), list(10, 12, 30, 11, 40)},
	} {
		step, e := shade.Step(s(), x.round)
		wantNumber(t, "Step", x, step, e, x.step, api.OK)
		sum, e := shade.Sum(s(), x.round)
		wantNumber(t, "Sum", x, sum, e, x.sum, api.OK)
		least, e := shade.Least(s(), x.round)
		wantNumber(t, "Least", x, least, e, x.least, api.OK)
		box, e := shade.Box(s(), x.round)
		wantList(t, "Box", x, box, e, x.box)
		why, e := shade.Why(s(), x.round)
		wantNumber(t, "Why", x, why, e, x.why, api.OK)
		most, e := shade.Most(s(), x.round)
		wantNumber(t, "Most", x, most, e, x.of, api.OK)
		wide, e := shade.Wide(s(), x.round)
		wantList(t, "Wide", x, wide, e, x.wide)
	}
	why, e := shade.Why(list(5), false)
	wantNumber(t, "Why", 5, why, e, 0, api.ErrLost)
}

func TestExamplesOfProofs(t *testing.T) {
	for _, x := range []struct {
		round       bool
		index, step int
		want        api.Errno
	}{{true, 1, 19, api.OK}, {true, 1, 20, api.ErrProof}, {true, 3, 1, api.ErrRange}, {false, 3, 10, api.OK}} {
		if e := shade.Proves(s(), x.round, x.index, x.step); e != x.want {
			t.Errorf("Proves of %v: %d", x, e)
		}
	}
}

func TestExamplesOfTurning(t *testing.T) {
	for _, x := range []struct {
		order []int
		want  bool
		e     api.Errno
	}{{list(0, 2, 1, 3), true, api.OK}, {list(1, 0), false, api.OK}, {list(0, 0), false, api.ErrTwice}, {nil, false, api.ErrEmpty}} {
		if turning, e := shade.Turning(x.order); turning != x.want || e != x.e {
			t.Errorf("Turning of %v: %v %d", x.order, turning, e)
		}
	}
	for _, x := range [][2]int{{4, 5}, {9, 7936}} {
		n, e := shade.Count(x[0])
		wantNumber(t, "Count", x[0], n, e, x[1], api.OK)
	}
	for _, x := range [][2]int{{0, 2}, {2, 1}, {3, 0}} {
		n, e := shade.Begin(4, x[0])
		wantNumber(t, "Begin of 4", x[0], n, e, x[1], api.OK)
	}
	for _, x := range []struct {
		number int
		want   []int
	}{{0, list(0, 2, 1, 3)}, {1, list(0, 3, 1, 2)}, {4, list(2, 3, 0, 1)}} {
		order, e := shade.At(4, x.number)
		wantList(t, "At of 4", x.number, order, e, x.want)
	}
	if order, e := shade.At(4, 5); len(order) != 0 || e != api.ErrRange {
		t.Errorf("At of 4, 5: %v %d", order, e)
	}
	n, e := shade.Number(list(1, 3, 0, 2))
	wantNumber(t, "Number", "1 3 0 2", n, e, 3, api.OK)
	n, e = shade.Number(list(1, 0))
	wantNumber(t, "Number", "1 0", n, e, 0, api.ErrLost)
}
