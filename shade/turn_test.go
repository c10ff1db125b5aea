package shade_test

import (
	"testing"

	"vitola/api"
	"vitola/shade"
)

// P7.6, P7.8: Turning and Number of all orders.
func TestAllOrders(t *testing.T) {
	for n := 1; n <= shade.MaxOrder; n++ {
		number := 0
		for order := range orders(n) {
			want := modelTurns(order)
			if turning, e := shade.Turning(order); turning != want || e != api.OK {
				t.Fatalf("Turning of %v: %v %d, want %v", order, turning, e, want)
			}
			found, e := shade.Number(order)
			if !want {
				wantNumber(t, "Number", order, found, e, 0, api.ErrLost)
				continue
			}
			wantNumber(t, "Number", order, found, e, number, api.OK)
			number++
		}
	}
}

// P7.8, P7.12: At of all numbers, and back.
func TestAllNumbers(t *testing.T) {
	for n := 1; n <= shade.MaxOrder; n++ {
		for number, want := range turnings()[n] {
			order, e := shade.At(n, number)
			wantList(t, "At", list(n, number), order, e, want)
			back, e := shade.Number(order)
			wantNumber(t, "Number", order, back, e, number, api.OK)
		}
		many := len(turnings()[n])
		if order, e := shade.At(n, many); len(order) != 0 || e != api.ErrRange {
			t.Errorf("At of %d, %d: %v %d", n, many, order, e)
		}
	}
}

// P7.7: Count and Begin are how many turning orders there are, and how many begin with each number.
func TestCounts(t *testing.T) {
	for n := 1; n <= shade.MaxOrder; n++ {
		begin := make([]int, n)
		for _, order := range turnings()[n] {
			begin[order[0]]++
		}
		for first, want := range begin {
			many, e := shade.Begin(n, first)
			wantNumber(t, "Begin", list(n, first), many, e, want, api.OK)
		}
		many, e := shade.Count(n)
		wantNumber(t, "Count", n, many, e, len(turnings()[n]), api.OK)
	}
}

// P7.11: how the counts of turning orders hang together.
func TestCountsTogether(t *testing.T) {
	for n := 1; n <= shade.MaxOrder; n++ {
		last, e := shade.Begin(n, n-1)
		if want := map[bool]int{true: 1}[n == 1]; last != want || e != api.OK {
			t.Errorf("Begin of %d, %d: %d %d, want %d", n, n-1, last, e, want)
		}
		sum := last
		for k := range n - 1 {
			many, _ := shade.Begin(n, k)
			next, _ := shade.Begin(n, k+1)
			fewer, e := shade.Begin(n-1, n-2-k)
			if many != next+fewer || e != api.OK {
				t.Errorf("Begin of %d, %d: %d, want %d and %d", n, k, many, next, fewer)
			}
			sum += many
		}
		count, _ := shade.Count(n)
		if count != sum {
			t.Errorf("Count of %d: %d, want %d", n, count, sum)
		}
		if n < shade.MaxOrder {
			more, e := shade.Begin(n+1, 0)
			wantNumber(t, "Begin of one more and 0", n, more, e, count, api.OK)
		}
	}
}
