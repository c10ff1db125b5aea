package shade_test

import (
	"math"
	"testing"

	"vitola/api"
	"vitola/shade"
)

// P7.2: Step and Sum.
func TestSteps(t *testing.T) {
	for _, b := range boxes() {
		greatest, sum := modelSteps(b.shades, b.round)
		n, e := shade.Step(b.shades, b.round)
		wantNumber(t, "Step", b, n, e, greatest, api.OK)
		n, e = shade.Sum(b.shades, b.round)
		wantNumber(t, "Sum", b, n, e, sum, api.OK)
	}
}

// P7.2: one cigar has no neighbour, and two in a round box are neighbours twice.
func TestFewCigars(t *testing.T) {
	for _, round := range boths() {
		for one := range shade.MaxShade + 1 {
			n, e := shade.Step(list(one), round)
			wantNumber(t, "Step", one, n, e, 0, api.OK)
			n, e = shade.Sum(list(one), round)
			wantNumber(t, "Sum", one, n, e, 0, api.OK)
			for other := range one {
				times := 1
				if round {
					times = 2
				}
				n, e = shade.Step(list(other, one), round)
				wantNumber(t, "Step", list(other, one), n, e, one-other, api.OK)
				n, e = shade.Sum(list(one, other), round)
				wantNumber(t, "Sum", list(one, other), n, e, times*(one-other), api.OK)
			}
		}
	}
}

// P7.3, P7.5: what is best of all arrangements, and the first one that is.
func TestBest(t *testing.T) {
	for _, b := range boxes() {
		n, e := shade.Least(b.shades, b.round)
		wantNumber(t, "Least", b, n, e, b.least, api.OK)
		l, e := shade.Box(b.shades, b.round)
		wantList(t, "Box", b, l, e, b.box)
		n, e = shade.Most(b.shades, b.round)
		wantNumber(t, "Most", b, n, e, b.most, api.OK)
		l, e = shade.Wide(b.shades, b.round)
		wantList(t, "Wide", b, l, e, b.wide)
	}
}

// P7.3, P7.5: the arrangements have the Step and the Sum that are promised.
func TestArrangementsHaveIt(t *testing.T) {
	for _, b := range boxes() {
		l, _ := shade.Box(b.shades, b.round)
		least, _ := shade.Least(b.shades, b.round)
		n, e := shade.Step(l, b.round)
		wantNumber(t, "Step of Box", b, n, e, least, api.OK)
		l, _ = shade.Wide(b.shades, b.round)
		most, _ := shade.Most(b.shades, b.round)
		n, e = shade.Sum(l, b.round)
		wantNumber(t, "Sum of Wide", b, n, e, most, api.OK)
	}
}

// P7.4: Why is the smallest index that proves Least, and one cigar alone has none.
func TestWhy(t *testing.T) {
	for _, b := range boxes() {
		want, f := 0, api.OK
		for want < len(b.shades) && modelProves(b.shades, b.round, want, b.least) != api.OK {
			want++
		}
		if len(b.shades) == 1 {
			want, f = 0, api.ErrLost
		}
		n, e := shade.Why(b.shades, b.round)
		wantNumber(t, "Why", b, n, e, want, f)
	}
}

// P7.4: Proves of each index and each step, and of those that cannot be.
func TestProves(t *testing.T) {
	for _, b := range boxes() {
		for index := -2; index < 10; index++ {
			for _, step := range list(math.MinInt, -61, -1, 0, 1, 2, 3, b.least-1, b.least, b.least+1, 37, 60, 61, math.MaxInt) {
				checkProves(t, b, index, step)
			}
		}
		for _, index := range extremes() {
			checkProves(t, b, index, 0)
		}
	}
}

func checkProves(t *testing.T, b box, index, step int) {
	t.Helper()
	want := modelProves(b.shades, b.round, index, step)
	if e := shade.Proves(b.shades, b.round, index, step); e != want {
		t.Fatalf("Proves of %v, %v, %d, %d: %d, want %d", b.shades, b.round, index, step, e, want)
	}
}

// P7.9: Least is the greatest step that some index proves.
func TestGreatestProved(t *testing.T) {
	for _, b := range boxes() {
		want := 0
		for index := range len(b.shades) {
			for step := range shade.MaxShade + 2 {
				if shade.Proves(b.shades, b.round, index, step) == api.OK {
					want = max(want, step)
				}
			}
		}
		n, e := shade.Least(b.shades, b.round)
		wantNumber(t, "Least", b, n, e, want, api.OK)
		why, e := shade.Why(b.shades, b.round)
		if e == api.OK && shade.Proves(b.shades, b.round, why, n) != api.OK {
			t.Fatalf("Why of %v: %d does not prove %d", b, why, n)
		}
	}
}

// P7.9: if an index proves a step, each arrangement has a step that is at least as great.
func TestNoneIsBetter(t *testing.T) {
	for i, b := range boxes() {
		if len(b.shades) > 5 && i%20 > 1 {
			continue
		}
		proved := 0
		for index := range len(b.shades) {
			for shade.Proves(b.shades, b.round, index, proved+1) == api.OK {
				proved++
			}
		}
		for l := range arranged(b.shades) {
			if n, e := shade.Step(l, b.round); n < proved || e != api.OK {
				t.Fatalf("Step of %v, %v: %d %d, but %d is proved", l, b.round, n, e, proved)
			}
		}
	}
}
