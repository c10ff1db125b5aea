package store_test

import (
	"slices"
	"testing"

	"vitola/api"
	"vitola/store"
)

func TestLimits(t *testing.T) {
	if store.MaxBoxes != 9 {
		t.Error(store.MaxBoxes)
	}
}

// modelCheck looks at the numbers of a division one by one.
func modelCheck(rooms []int) api.Errno {
	if len(rooms) == 0 {
		return api.ErrEmpty
	}
	if len(rooms) > 9 {
		return api.ErrMany
	}
	for box, room := range rooms {
		if room < 0 {
			return api.ErrRange
		}
		if box == 0 && room != 0 || box > 0 && room-1 > slices.Max(rooms[:box]) {
			return api.ErrOrder
		}
	}
	return api.OK
}

// checkRooms compares Check with the model; all calls of a division return the same error, whatever else is wrong.
func checkRooms(t *testing.T, rooms []int) {
	t.Helper()
	want := modelCheck(rooms)
	if e := store.Check(rooms); e != want {
		t.Fatalf("Check of %v: %d, want %d", rooms, e, want)
	}
	if want == api.OK {
		return
	}
	for _, c := range callsOfOne() {
		wantError(t, c, input{a: rooms}, want)
	}
	for _, c := range callsOfTwo() {
		for _, other := range [][]int{nil, list(0), list(1), list(-1), make([]int, 10), make([]int, len(rooms)), rooms} {
			wantError(t, c, input{a: rooms, b: other}, want)
		}
		wantError(t, c, input{a: list(0), b: rooms}, want)
		wantError(t, c, input{a: list(0, 1, 0, 1, 2), b: rooms}, want)
	}
}

// P11.1: all lists of numbers from -1 to 5, for up to 5 boxes.
func TestCheckAll(t *testing.T) {
	right := [6]int{}
	lists := [][]int{nil}
	for boxes := 1; boxes <= 5; boxes++ {
		var longer [][]int
		for _, rooms := range lists {
			for room := -1; room <= 5; room++ {
				longer = append(longer, append(slices.Clone(rooms), room))
			}
		}
		lists = longer
		for _, rooms := range lists {
			checkRooms(t, rooms)
			if store.Check(rooms) == api.OK {
				right[boxes]++
			}
		}
	}
	if right != [6]int{0, 1, 2, 5, 15, 52} {
		t.Error(right)
	}
}

// P11.1: all divisions are right, and no other number is in the place of one of their numbers.
func TestCheckEach(t *testing.T) {
	for division := range divisions(9) {
		if e := store.Check(division); e != api.OK {
			t.Fatalf("Check of %v: %d", division, e)
		}
	}
	for division := range divisions(6) {
		for place := range division {
			for _, wrong := range append(extremes(), 0, 1, 2, 3, 4, 5, 6, 7, 8, 9) {
				rooms := slices.Clone(division)
				rooms[place] = wrong
				checkRooms(t, rooms)
			}
		}
	}
}

// P11.1: none and too many, whatever they are.
func TestLength(t *testing.T) {
	checkRooms(t, nil)
	for _, many := range list(1, 2, 8, 9, 10, 11, 18, 100_000) {
		for _, room := range append(extremes(), 0, 1, 9) {
			rooms := slices.Repeat(list(room), many)
			checkRooms(t, rooms)
			if many > 9 {
				wantError(t, callOfLabels(), input{a: rooms}, api.ErrMany)
			} else {
				wantResult(t, "Of", input{a: rooms}, make([]int, many)...)
			}
		}
		climbing := make([]int, many)
		for i := range climbing {
			climbing[i] = i
		}
		checkRooms(t, climbing)
	}
	wantError(t, callOfLabels(), input{}, api.ErrEmpty)
}

// P11.2, P11.3, P11.5: numbers of boxes that are out of range, whatever else is wrong.
func TestBoxes(t *testing.T) {
	for _, boxes := range append(extremes(), 0, 10, 11) {
		for _, c := range callsOfBoxes() {
			for _, number := range append(extremes(), 0, 1, 5) {
				wantError(t, c, input{boxes: boxes, number: number}, api.ErrRange)
			}
		}
	}
}

// P11.2, P11.3: numbers of rooms, and of divisions, that are out of range.
func TestNumbers(t *testing.T) {
	for boxes := 1; boxes <= 9; boxes++ {
		count := len(everyDivision[boxes])
		for _, number := range append(extremes(), 0, boxes+1, boxes+2, 2*boxes+1) {
			wantError(t, named("Into"), input{boxes: boxes, number: number}, api.ErrRange)
		}
		for _, number := range append(extremes(), count, count+1, 2*count) {
			wantError(t, named("At"), input{boxes: boxes, number: number}, api.ErrRange)
		}
		for _, number := range append(extremes(), 0, count) {
			wantResult(t, "Count", input{boxes: boxes, number: number}, count)
		}
	}
}

// P11.4: the error of the first division, then that of the second one, then that of both.
func TestErrorOfTwo(t *testing.T) {
	lists := [][]int{nil, list(0), list(1), list(-1), list(0, 0), list(0, 1), list(0, 2), list(0, -1), make([]int, 8), make([]int, 9), make([]int, 10)}
	for _, a := range lists {
		for _, b := range lists {
			want := modelCheck(a)
			if want == api.OK {
				want = modelCheck(b)
			}
			if want == api.OK && len(a) != len(b) {
				want = api.ErrShape
			}
			for _, c := range callsOfTwo() {
				x := input{a: a, b: b}
				if want != api.OK {
					wantError(t, c, x, want)
				} else if l, e := c.run(x); e != api.OK {
					t.Errorf("%s of %v: %v %d", c.name, x, l, e)
				}
			}
		}
	}
}

// R3: a nil list and an empty one are equal.
func TestNil(t *testing.T) {
	for _, c := range calls() {
		l, e := c.run(input{boxes: 3, number: 1})
		m, f := c.run(input{a: list(), b: make([]int, 0, 5), boxes: 3, number: 1})
		if !slices.Equal(l, m) || e != f {
			t.Errorf("%s: %v %d, %v %d", c.name, l, e, m, f)
		}
	}
	for _, c := range callsOfTwo() {
		wantError(t, c, input{a: list(0), b: list()}, api.ErrEmpty)
	}
}

// P1: each call ends with the extreme numbers, and has the same result the second time.
func TestSameAgain(t *testing.T) {
	numbers := append(extremes(), 0, 1, 2, 9, 10)
	for _, c := range calls() {
		for _, n := range numbers {
			for _, m := range numbers {
				checkAgain(t, c, input{a: list(n, m), b: list(m, n), boxes: n, number: m})
				checkAgain(t, c, input{a: list(0, n), b: list(0, m), boxes: 9, number: n})
				checkAgain(t, c, input{a: list(0, 1, n, 3, m), b: list(0, 0, 0, n, n), boxes: 3, number: n})
			}
		}
		for a, b := range pairs(4, 50) {
			checkAgain(t, c, input{a: a, b: b, boxes: len(a), number: a[len(a)-1] + 1})
		}
	}
}

func checkAgain(t *testing.T, c call, x input) {
	t.Helper()
	l, e := c.run(x)
	if other, f := c.run(x); !slices.Equal(l, other) || e != f {
		t.Fatalf("%s of %v: %v %d, then %v %d", c.name, x, l, e, other, f)
	}
	if e != api.OK && len(l) != 0 {
		t.Fatalf("%s of %v: %v with the error %d", c.name, x, l, e)
	}
}
