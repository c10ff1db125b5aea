package duty_test

import (
	"slices"
	"testing"

	"vitola/api"
	"vitola/duty"
)

func TestLimits(t *testing.T) {
	if duty.MaxBelow != 30 || duty.MaxParts != 4 || duty.MaxPart != 2000 || duty.MaxHalf != 40 || duty.MaxCents != 100000 {
		t.Error(duty.MaxBelow, duty.MaxParts, duty.MaxPart, duty.MaxHalf, duty.MaxCents)
	}
}

// P13.1: all numbers from -3 to 65, and extreme ones; all calls of a fraction return the same error, whatever else is wrong.
func TestCheck(t *testing.T) {
	right := slices.Collect(fractions())
	numbers := extremes()
	for number := -3; number <= 65; number++ {
		numbers = append(numbers, number)
	}
	for _, above := range numbers {
		for _, below := range numbers {
			x := input{f: of(above, below)}
			if slices.Contains(right, x.f) {
				wantResult(t, "Check", x)
				continue
			}
			for _, c := range callsOfFractions() {
				for _, many := range list(-1, 0, 1, 3, 4) {
					x.many = many
					wantError(t, c.name, x, api.ErrRange)
				}
			}
		}
	}
}

// P13.6: numbers of parts for which Ways does not ask.
func TestRangeOfWays(t *testing.T) {
	for f := range fractions() {
		for _, many := range append(extremes(), 0, 4, 5) {
			wantError(t, "Ways", input{f: f, many: many}, api.ErrRange)
		}
	}
}

// P13.4: numbers that no pairs are asked for.
func TestRangeOfPairs(t *testing.T) {
	for _, part := range append(extremes(), 0, 41, 42, 100, 2000) {
		wantError(t, "Pairs", input{part: part}, api.ErrRange)
	}
}

// modelCheckParts compares each part with the one before it.
func modelCheckParts(parts []int) api.Errno {
	if len(parts) > 4 {
		return api.ErrMany
	}
	for i, part := range parts {
		if part <= 1 || part >= 2001 {
			return api.ErrRange
		}
		if i > 0 && parts[i-1] >= part {
			return api.ErrOrder
		}
	}
	return api.OK
}

// checkParts compares CheckParts with the model; all calls of parts return the same error, whatever else is wrong, and Cents that of its total before it.
func checkParts(t *testing.T, parts []int) {
	t.Helper()
	want := modelCheckParts(parts)
	if e := duty.CheckParts(parts); e != want {
		t.Fatalf("CheckParts of %v: %d, want %d", parts, e, want)
	}
	if want == api.OK {
		return
	}
	for _, c := range callsOfParts() {
		for _, number := range list(0, 1, len(parts)-1) {
			wantError(t, c.name, input{parts: parts, index: number, total: number}, want)
		}
	}
	wantError(t, "Divide", input{parts: parts, index: -1}, want)
	wantError(t, "Divide", input{parts: parts, index: len(parts)}, want)
	wantError(t, "Cents", input{parts: parts, total: 100000}, want)
}

// P13.2: all lists of up to 5 of some numbers.
func TestCheckParts(t *testing.T) {
	all := [][]int{nil}
	for range 5 {
		var longer [][]int
		for _, parts := range all {
			for _, part := range list(-1, 0, 1, 2, 3, 5, 1999, 2000, 2001) {
				longer = append(longer, append(slices.Clone(parts), part))
			}
		}
		all = longer
		for _, parts := range all {
			checkParts(t, parts)
		}
	}
}

// P13.2: each number at each place, and of two wrong ones the first one.
func TestPlaces(t *testing.T) {
	for parts := range someParts() {
		checkParts(t, parts)
	}
	for parts := range allParts(8) {
		for place := range parts {
			for _, number := range append(extremes(), 0, 1, 2, parts[0], parts[len(parts)-1], 2000, 2001) {
				other := slices.Clone(parts)
				other[place] = number
				checkParts(t, other)
				other[len(parts)-1-place] = 1
				checkParts(t, other)
			}
		}
	}
}

// P13.2: none and too many, whatever they are.
func TestLength(t *testing.T) {
	checkParts(t, nil)
	for _, many := range list(1, 2, 4, 5, 6, 100_000) {
		for _, part := range append(extremes(), 0, 1, 2, 2000, 2001) {
			checkParts(t, slices.Repeat(list(part), many))
		}
	}
	checkParts(t, list(2, 3, 4, 5))
	checkParts(t, list(2, 3, 4, 5, 6))
}

// P13.7: what is not the index of a part, before what else is wrong.
func TestIndices(t *testing.T) {
	for parts := range someParts() {
		for _, index := range append(extremes(), len(parts), len(parts)+1) {
			wantError(t, "Divide", input{parts: parts, index: index}, api.ErrNone)
		}
	}
}

// P13.8: totals out of range, before what is wrong with the parts.
func TestTotals(t *testing.T) {
	for parts := range someParts() {
		for _, total := range append(extremes(), 100_001) {
			wantError(t, "Cents", input{parts: parts, total: total}, api.ErrRange)
			wantError(t, "Cents", input{parts: append(list(1), parts...), total: total}, api.ErrRange)
			wantError(t, "Cents", input{parts: append(list(5, 5, 5, 5, 5), parts...), total: total}, api.ErrRange)
			wantError(t, "Cents", input{parts: append(list(2000, 2), parts...), total: total}, api.ErrRange)
		}
	}
}

// R3: a nil list and an empty one are equal.
func TestNil(t *testing.T) {
	for _, c := range callsOfParts() {
		for _, number := range list(-1, 0, 1, 100) {
			l, e := c.run(input{index: number, total: number})
			m, f := c.run(input{parts: make([]int, 0, 3), index: number, total: number})
			if !slices.Equal(l, m) || e != f {
				t.Errorf("%s of %d: %v %d, %v %d", c.name, number, l, e, m, f)
			}
		}
	}
}

// P1: each call ends with the extreme numbers, and has the same result the second time.
func TestSameAgain(t *testing.T) {
	numbers := append(extremes(), 0, 1, 2, 3, 30, 40, 2000)
	for _, c := range calls() {
		for _, n := range numbers {
			for _, m := range numbers {
				checkAgain(t, c, input{f: of(n, m), many: n, parts: list(n, m), index: m, total: n, part: m})
				checkAgain(t, c, input{f: of(1, m), many: n, parts: list(2, n), index: m, total: m, part: n})
				checkAgain(t, c, input{f: of(3, 7), many: m, parts: list(3, 7), index: n, total: m})
			}
		}
	}
	for f := range fractions() {
		for _, c := range callsOfFractions() {
			checkAgain(t, c, input{f: f, many: 3})
		}
	}
	for parts := range someParts() {
		for _, c := range callsOfParts() {
			checkAgain(t, c, input{parts: parts, total: 777})
		}
	}
}

func checkAgain(t *testing.T, c call, x input) {
	t.Helper()
	l, e := c.run(x)
	if other, f := c.run(x); !slices.Equal(l, other) || e != f {
		t.Fatalf("%s of %v: %v %d, then %v %d", c.name, x, l, e, other, f)
	}
	if e != api.OK && len(l) != 0 {
		t.Fatalf("%s of %v: %v with the error %d", c.name, x, l, e)
	}
}
