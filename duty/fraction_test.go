package duty_test

import (
	"slices"
	"testing"

	"vitola/api"
	"vitola/duty"
)

// P13.1: Reduced of all fractions.
func TestReduced(t *testing.T) {
	for f := range fractions() {
		want := modelReduced(f)
		wantResult(t, "Reduced", input{f: f}, want.Above, want.Below)
	}
}

// P13.3: Greedy of all fractions.
func TestGreedy(t *testing.T) {
	for f := range fractions() {
		want, e := modelGreedy(f)
		wantParts(t, "Greedy", input{f: f}, want, e)
	}
}

// P13.9: what is left has a smaller Above after each greedy part, the next part is greater than p (p - 1), and the sum is the fraction.
func TestGreedySteps(t *testing.T) {
	for f := range fractions() {
		parts, e := duty.Greedy(f)
		if e != api.OK {
			continue
		}
		left := rational(f.Above, f.Below)
		if int64(len(parts)) > left.Num().Int64() {
			t.Fatalf("Greedy of %v: %v, too many", f, parts)
		}
		for i, part := range parts {
			above := left.Num().Int64()
			left.Sub(left, rational(1, part))
			if left.Num().Int64() >= above {
				t.Fatalf("Greedy of %v: %v, after %d is left %v", f, parts, part, left)
			}
			if i > 0 && part <= parts[i-1]*(parts[i-1]-1) {
				t.Fatalf("Greedy of %v: %v, %d comes too soon", f, parts, part)
			}
		}
		if left.Sign() != 0 {
			t.Fatalf("Greedy of %v: %v, and %v is left", f, parts, left)
		}
		reduced := modelReduced(f)
		wantResult(t, "Sum", input{parts: parts}, reduced.Above, reduced.Below)
	}
}

// P13.5: Two and Sides of all fractions.
func TestTwoAndSides(t *testing.T) {
	for f := range fractions() {
		x := input{f: f}
		if all := makingsOf(f)[2]; len(all) == 0 {
			wantError(t, "Two", x, api.ErrLost)
		} else {
			wantResult(t, "Two", x, all[0]...)
		}
		if sides := modelSides(f); len(sides) == 0 {
			wantError(t, "Sides", x, api.ErrLost)
		} else {
			wantResult(t, "Sides", x, sides[0][:]...)
		}
	}
}

// P13.10: two different numbers make a fraction just if it has sides; each of both shows the other one.
func TestTwoNumbers(t *testing.T) {
	for f := range fractions() {
		parts, e := duty.Two(f)
		u, v, other := duty.Sides(f)
		if e != other {
			t.Fatalf("%v: Two %d, Sides %d", f, e, other)
		}
		if e != api.OK {
			continue
		}
		reduced := modelReduced(f)
		by := (u + v) / reduced.Above * reduced.Below
		wantResult(t, "Sum", input{parts: list(by/v, by/u)}, reduced.Above, reduced.Below)
		divisor := parts[0]
		for parts[0]%divisor != 0 || parts[1]%divisor != 0 {
			divisor--
		}
		if !isSides(reduced, parts[0]/divisor, parts[1]/divisor) {
			t.Fatalf("Two of %v: %v, which shows no sides", f, parts)
		}
	}
}

// P13.10: the greater one of both numbers is at most Below times one more than Below, also where numbers may be greater than parts.
func TestGreatestOfTwo(t *testing.T) {
	for f := range fractions() {
		if modelReduced(f) != f {
			continue
		}
		numbers := 0
		// The smaller number is smaller than twice the fraction upside down, and leaves one number to the other.
		for x := 2; x*f.Above < 2*f.Below; x++ {
			above, below := f.Above*x-f.Below, f.Below*x
			if above <= 0 || below%above != 0 || below/above <= x {
				continue
			}
			numbers++
			if below/above > f.Below*(f.Below+1) {
				t.Fatalf("%v: %d and %d", f, x, below/above)
			}
		}
		wantResult(t, "Ways", input{f: f, many: 2}, numbers)
	}
}

// P13.6: Fewest and Ways of all fractions.
func TestFewestAndWays(t *testing.T) {
	for f := range fractions() {
		want := modelFewest(f)
		if want == nil {
			wantError(t, "Fewest", input{f: f}, api.ErrLost)
		} else {
			wantResult(t, "Fewest", input{f: f}, want...)
		}
		for many := 1; many <= 3; many++ {
			wantResult(t, "Ways", input{f: f, many: many}, len(makingsOf(f)[many]))
		}
	}
}

// modelWays counts two parts for each smallest part, by the divisors of a square.
func modelWays(f duty.Fraction) int {
	ways := 0
	for x := 2; x < 90; x++ {
		above, below := f.Above*x-f.Below, f.Below*x
		if above <= 0 {
			continue
		}
		for less := 1; less < below; less++ {
			if below*below%less != 0 {
				continue
			}
			more := below * below / less
			y, z := (below+less)/above, (below+more)/above
			if (below+less)%above == 0 && (below+more)%above == 0 && x < y && z <= 2000 {
				ways++
			}
		}
	}
	return ways
}

// P13.6: Ways of three parts, by another count than that of the model.
func TestWaysOfThree(t *testing.T) {
	for f := range fractions() {
		if modelReduced(f) == f {
			wantResult(t, "Ways", input{f: f, many: 3}, modelWays(f))
		}
	}
}

// P13.12: Fewest returns as many parts as the smallest number for which there are ways, and not more than Greedy; they make the fraction.
func TestFewest(t *testing.T) {
	for f := range fractions() {
		smallest := 0
		for many := 3; many >= 1; many-- {
			if ways, e := duty.Ways(f, many); ways > 0 && e == api.OK {
				smallest = many
			}
		}
		parts, e := duty.Fewest(f)
		if len(parts) != smallest || (e == api.OK) != (smallest > 0) {
			t.Fatalf("Fewest of %v: %v %d, want %d parts", f, parts, e, smallest)
		}
		if e != api.OK {
			continue
		}
		if greedy, e := duty.Greedy(f); e == api.OK && len(greedy) < len(parts) {
			t.Fatalf("Fewest of %v: %v, Greedy %v", f, parts, greedy)
		}
		reduced := modelReduced(f)
		wantResult(t, "Sum", input{parts: parts}, reduced.Above, reduced.Below)
	}
}

// P13.15: for equal fractions all calls return the same, but Check.
func TestNames(t *testing.T) {
	for f := range fractions() {
		for _, c := range callsOfFractions() {
			for many := range 5 {
				l, e := c.run(input{f: f, many: many})
				if m, g := c.run(input{f: modelReduced(f), many: many}); !slices.Equal(l, m) || e != g {
					t.Fatalf("%s of %v and %d: %v %d, reduced %v %d", c.name, f, many, l, e, m, g)
				}
			}
		}
	}
}

// P13.15: numbers that are too great are no fraction, whatever they are equal to.
func TestNamesTooGreat(t *testing.T) {
	for f := range fractions() {
		for times := 30/f.Below + 1; times <= 40; times++ {
			for _, c := range callsOfFractions() {
				wantError(t, c.name, input{f: of(f.Above*times, f.Below*times), many: 2}, api.ErrRange)
			}
		}
	}
}
