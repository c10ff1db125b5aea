package duty_test

import (
	"math/rand"
	"testing"

	"vitola/api"
	"vitola/duty"
)

// P13.2: Sum, as two numbers without a common divisor.
func TestSum(t *testing.T) {
	for parts := range someParts() {
		want := modelSum(parts)
		wantResult(t, "Sum", input{parts: parts}, int(want.Num().Int64()), int(want.Denom().Int64()))
	}
}

// P13.4: Pairs of all numbers up to MaxHalf.
func TestPairs(t *testing.T) {
	for part := 1; part <= 40; part++ {
		wantResult(t, "Pairs", input{part: part}, numbers(modelPairs(part))...)
	}
}

// P13.11: there are half as many pairs as the square has divisors, without the number itself, and each pair shows two of them.
func TestPairsOfDivisors(t *testing.T) {
	for part := 1; part <= 40; part++ {
		pairs, e := duty.Pairs(part)
		if e != api.OK {
			t.Fatalf("Pairs of %d: %d", part, e)
		}
		divisors := 0
		for divisor := 1; divisor <= part*part; divisor++ {
			if part*part%divisor == 0 && divisor != part {
				divisors++
			}
		}
		if 2*len(pairs) != divisors {
			t.Fatalf("Pairs of %d: %v, want half of %d", part, pairs, divisors)
		}
		for _, pair := range pairs {
			if (pair[0]-part)*(pair[1]-part) != part*part || pair[0] >= pair[1] {
				t.Fatalf("Pairs of %d: %v", part, pair)
			}
			if pair[1] <= 2000 {
				wantResult(t, "Sum", input{parts: pair[:]}, 1, part)
			}
		}
	}
}

// F1: Ways of one part in two are its pairs.
func TestPairsAndWays(t *testing.T) {
	for part := 2; part <= 30; part++ {
		pairs, e := duty.Pairs(part)
		if e != api.OK {
			t.Fatalf("Pairs of %d: %d", part, e)
		}
		wantResult(t, "Ways", input{f: of(1, part), many: 2}, len(pairs))
		wantResult(t, "Two", input{f: of(1, part)}, pairs[0][:]...)
	}
}

// P13.7, P13.13: Divide of each part; the sum stays.
func TestDivide(t *testing.T) {
	for parts := range someParts() {
		sum := modelSum(parts)
		for index := range parts {
			x := input{parts: parts, index: index}
			want, e := modelDivide(parts, index)
			wantParts(t, "Divide", x, want, e)
			if e == api.OK {
				wantResult(t, "CheckParts", input{parts: want})
				wantResult(t, "Sum", input{parts: want}, int(sum.Num().Int64()), int(sum.Denom().Int64()))
			}
		}
	}
}

// P13.7: the errors of Divide, and which one comes first.
func TestErrorsOfDivide(t *testing.T) {
	for _, x := range []struct {
		parts []int
		index int
		e     api.Errno
	}{
		{list(2, 3, 6, 7), 4, api.ErrNone},
		{list(2, 3, 6, 7), 0, api.ErrMany},
		{list(2, 3, 6, 60), 3, api.ErrMany},
		{list(45, 46), 0, api.ErrOver},
		{list(1999, 2000), 0, api.ErrOver},
		{list(44, 45), 0, api.ErrTwice},
		{list(44, 1980), 0, api.ErrTwice},
		{list(5, 6, 30), 0, api.ErrTwice},
		{list(6, 41, 42), 0, api.ErrTwice},
	} {
		wantError(t, "Divide", input{parts: x.parts, index: x.index}, x.e)
	}
	wantResult(t, "Divide", input{parts: list(44, 46)}, 45, 46, 1980)
	wantResult(t, "Divide", input{parts: list(44, 1979, 2000)}, 45, 1979, 1980, 2000)
}

// totals gives small totals, great ones, and some between.
func totals(random *rand.Rand) []int {
	all := list(0, 1, 2, 59, 60, 99_999, 100_000)
	for range 10 {
		all = append(all, random.Intn(100), random.Intn(100_001))
	}
	return all
}

// P13.8, P13.14: Cents; what is over is smaller than the number of parts.
func TestCents(t *testing.T) {
	random := rand.New(rand.NewSource(2))
	for parts := range someParts() {
		for _, total := range totals(random) {
			wantResult(t, "Cents", input{total: total, parts: parts}, modelCents(total, parts)...)
			_, over, _ := duty.Cents(total, parts)
			if over < 0 || over > 0 && over >= len(parts) {
				t.Fatalf("Cents of %d and %v: %d are over", total, parts, over)
			}
		}
	}
}

// P13.8: each total up to 5000 for some parts, among them the greatest one that can be over.
func TestCentsOfAll(t *testing.T) {
	most := 0
	for _, parts := range [][]int{nil, {7}, {2, 3}, {2, 3, 6}, {2, 3, 4, 5}, {3, 5, 7, 11}, {1997, 1998, 1999, 2000}} {
		for total := range 5001 {
			want := modelCents(total, parts)
			wantResult(t, "Cents", input{total: total, parts: parts}, want...)
			most = max(most, want[len(parts)])
		}
	}
	if most != 3 {
		t.Errorf("%d are over at most", most)
	}
}
