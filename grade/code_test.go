package grade_test

import (
	"fmt"
	"math"
	"math/bits"
	"slices"
	"testing"

	"vitola/api"
	"vitola/grade"
)

// P3.6, P3.13: Code and From for all orders; the sum of a code is how many pairs are turned.
func TestCodes(t *testing.T) {
	for l := range everyOrder() {
		want := modelCode(l)
		code, e := grade.Code(l)
		wantList(t, fmt.Sprintf("Code of %v", l), code, e, want)
		back, e := grade.From(want)
		wantList(t, fmt.Sprintf("From of %v", want), back, e, l)
		sum := 0
		for _, n := range code {
			sum += n
		}
		if turned := bits.OnesCount64(modelTurned(l)); sum != turned {
			t.Fatalf("Code of %v: %v, but %d pairs are turned", l, code, turned)
		}
	}
}

func modelFrom(code []int) api.Errno {
	if len(code) == 0 {
		return api.ErrEmpty
	}
	if len(code) > 7 {
		return api.ErrMany
	}
	for i, n := range code {
		if later := len(code[i+1:]); n < 0 || n > later {
			return api.ErrRange
		}
	}
	return api.OK
}

// P3.6, P3.13: From refuses what is no code, and Code gives back what is one.
func TestFrom(t *testing.T) {
	for length := range 5 {
		for code := range lists(length, -1, length+1) {
			l, e := grade.From(code)
			want := modelFrom(code)
			if e != want || want != api.OK && len(l) != 0 {
				t.Fatalf("From of %v: %v %d, want %d", code, l, e, want)
			}
			if want != api.OK {
				continue
			}
			again, e := grade.Code(l)
			wantList(t, fmt.Sprintf("Code of %v", l), again, e, code)
		}
	}
	for _, x := range []struct {
		code []int
		want api.Errno
	}{
		{make([]int, 7), api.OK},
		{list(6, 5, 4, 3, 2, 1, 0), api.OK},
		{list(7, 0, 0, 0, 0, 0, 0), api.ErrRange},
		{list(0, 0, 0, 0, 0, 0, 1), api.ErrRange},
		{list(0, 0, 0, 0, 0, 2, 0), api.ErrRange},
		{list(0, 0, 0, 0, 0, 0, -1), api.ErrRange},
		{list(math.MaxInt), api.ErrRange},
		{list(math.MinInt), api.ErrRange},
		{list(1<<32, 0), api.ErrRange},
		{make([]int, 8), api.ErrMany},
		{slices.Repeat(list(-1), 8), api.ErrMany},
		{slices.Repeat(list(9), 1_000_000), api.ErrMany},
	} {
		if l, e := grade.From(x.code); e != x.want || x.want != api.OK && len(l) != 0 {
			t.Errorf("From of %d numbers: %v %d, want %d", len(x.code), l, e, x.want)
		}
	}
}

// P3.7: Major, Shift and Back for all orders.
func TestShift(t *testing.T) {
	for l := range everyOrder() {
		if n, e := grade.Major(l); n != modelMajor(l) || e != api.OK {
			t.Fatalf("Major of %v: %d %d, want %d", l, n, e, modelMajor(l))
		}
		want := modelShift(l)
		shifted, e := grade.Shift(l)
		wantList(t, fmt.Sprintf("Shift of %v", l), shifted, e, want)
		back, e := grade.Back(want)
		wantList(t, fmt.Sprintf("Back of %v", want), back, e, l)
	}
}

// P3.13: Shift and Back are the inverse of each other.
func TestShiftAndBack(t *testing.T) {
	for l := range everyOrder() {
		back, _ := grade.Back(l)
		shifted, e := grade.Shift(back)
		wantList(t, fmt.Sprintf("Shift of %v", back), shifted, e, l)
	}
}

// P3.9: in the shifted order as many pairs are turned as the major number says.
func TestFoata(t *testing.T) {
	for l := range everyOrder() {
		major, _ := grade.Major(l)
		shifted, _ := grade.Shift(l)
		if turned := bits.OnesCount64(modelTurned(shifted)); turned != major {
			t.Fatalf("Shift of %v: %v, where %d pairs are turned, but Major is %d", l, shifted, turned, major)
		}
	}
}

// P3.8, P3.9: Count is the number of orders with so many turned pairs, and with such a major number.
func TestCount(t *testing.T) {
	for bales := 1; bales <= 7; bales++ {
		pairs := bales * (bales - 1) / 2
		byTurned, byMajor := make([]int, pairs+1), make([]int, pairs+1)
		for _, l := range orders(bales) {
			byTurned[bits.OnesCount64(modelTurned(l))]++
			major, _ := grade.Major(l)
			byMajor[major]++
		}
		for turned := range pairs + 1 {
			n, e := grade.Count(bales, turned)
			if n != byTurned[turned] || n != byMajor[turned] || e != api.OK {
				t.Errorf("Count of %d, %d: %d %d, want %d and %d", bales, turned, n, e, byTurned[turned], byMajor[turned])
			}
		}
		for _, turned := range list(-1, pairs+1, pairs+2, 22, 64, 1<<32, math.MaxInt, math.MinInt) {
			if n, e := grade.Count(bales, turned); n != 0 || e != api.ErrRange {
				t.Errorf("Count of %d, %d: %d %d, want ErrRange", bales, turned, n, e)
			}
		}
	}
	for _, bales := range list(0, -1, 8, -7, 64, 1<<32+1, math.MaxInt, math.MinInt) {
		for _, turned := range list(0, 1, -1, 10, math.MaxInt, math.MinInt) {
			if n, e := grade.Count(bales, turned); n != 0 || e != api.ErrRange {
				t.Errorf("Count of %d, %d: %d %d, want ErrRange", bales, turned, n, e)
			}
		}
	}
}
