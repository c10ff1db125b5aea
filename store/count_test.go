package store_test

import (
	"slices"
	"testing"

	"vitola/api"
	"vitola/store"
)

// P11.1: Of, for all labels from 0 to 4 of up to 5 boxes, and for labels of any size.
func TestOf(t *testing.T) {
	lists := [][]int{nil}
	for range 5 {
		var longer [][]int
		for _, labels := range lists {
			for label := range 5 {
				longer = append(longer, append(slices.Clone(labels), label))
			}
		}
		lists = longer
		for _, labels := range lists {
			wantResult(t, "Of", input{a: labels}, modelOf(labels)...)
		}
	}
	wide := extremes()
	for from := range len(wide) - 9 {
		labels := slices.Concat(wide[from:from+5], wide[from+1:from+5])
		wantResult(t, "Of", input{a: labels}, 0, 1, 2, 3, 4, 1, 2, 3, 4)
		wantResult(t, "Of", input{a: wide[from : from+9]}, 0, 1, 2, 3, 4, 5, 6, 7, 8)
	}
}

// F5, P11.14: Of returns each division itself, and if its rooms are named otherwise.
func TestOfDivisions(t *testing.T) {
	names := extremes()
	for division := range divisions(9) {
		wantResult(t, "Of", input{a: division}, division...)
		labels := make([]int, len(division))
		for box, room := range division {
			labels[box] = names[8-room]
		}
		wantResult(t, "Of", input{a: labels}, division...)
	}
}

// P11.2: Count and Into count the divisions that there are.
func TestCount(t *testing.T) {
	for boxes := 1; boxes <= 9; boxes++ {
		into := [10]int{}
		for _, division := range everyDivision[boxes] {
			into[modelRooms(division)]++
		}
		wantResult(t, "Count", input{boxes: boxes}, len(everyDivision[boxes]))
		for rooms := 1; rooms <= boxes; rooms++ {
			wantResult(t, "Into", input{boxes: boxes, number: rooms}, into[rooms])
		}
	}
}

// P11.3, P11.14: all divisions, in ascending order, and back.
func TestAt(t *testing.T) {
	for boxes := 1; boxes <= 9; boxes++ {
		for number, division := range everyDivision[boxes] {
			if number > 0 && slices.Compare(everyDivision[boxes][number-1], division) >= 0 {
				t.Fatalf("%v comes after %v", division, everyDivision[boxes][number-1])
			}
			wantResult(t, "At", input{boxes: boxes, number: number}, division...)
			wantResult(t, "Number", input{a: division}, number)
		}
	}
}

// P11.1: of all lists of so many numbers just those of At are divisions.
func TestAtIsAll(t *testing.T) {
	for boxes := 1; boxes <= 6; boxes++ {
		number := 0
		for rooms := make([]int, boxes); rooms != nil; rooms = nextList(rooms) {
			if modelCheck(rooms) != api.OK {
				continue
			}
			wantResult(t, "At", input{boxes: boxes, number: number}, rooms...)
			number++
		}
		wantResult(t, "Count", input{boxes: boxes}, number)
	}
}

// nextList returns the list that comes next of all lists of numbers below their length, or nil after the last one.
func nextList(l []int) []int {
	next := slices.Clone(l)
	for place := len(l) - 1; place >= 0; place-- {
		if next[place] < len(l)-1 {
			next[place]++
			return next
		}
		next[place] = 0
	}
	return nil
}

// intoOrNone is Into, and 0 where there are no such rooms.
func intoOrNone(t *testing.T, boxes, rooms int) int {
	t.Helper()
	if rooms < 1 || rooms > boxes {
		return 0
	}
	many, e := store.Into(boxes, rooms)
	if e != api.OK {
		t.Fatalf("Into of %d, %d: %d", boxes, rooms, e)
	}
	return many
}

// P11.9: how the numbers of divisions follow from those of one box less.
func TestHowMany(t *testing.T) {
	flat := list(1)
	for boxes := 1; boxes <= 9; boxes++ {
		sum := 0
		for rooms := 1; rooms <= boxes; rooms++ {
			many := intoOrNone(t, boxes, rooms)
			sum += many
			if want := intoOrNone(t, boxes-1, rooms-1) + rooms*intoOrNone(t, boxes-1, rooms); boxes > 1 && many != want {
				t.Errorf("Into of %d, %d: %d, want %d", boxes, rooms, many, want)
			}
		}
		wantResult(t, "Count", input{boxes: boxes}, sum)
		want := 0
		for k := range boxes {
			want += flat[k] * flat[boxes-1-k]
		}
		many, e := store.Flat(boxes)
		if many != want || e != api.OK {
			t.Errorf("Flat of %d: %d %d, want %d", boxes, many, e, want)
		}
		flat = append(flat, many)
	}
}
