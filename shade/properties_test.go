package shade_test

import (
	"slices"
	"testing"

	"vitola/api"
	"vitola/shade"
)

// leastOf and mostOf return what the calls return, which must not be an error.
func leastOf(t *testing.T, shades []int, round bool) int {
	t.Helper()
	n, e := shade.Least(shades, round)
	if e != api.OK {
		t.Fatalf("Least of %v: %d", shades, e)
	}
	return n
}

func mostOf(t *testing.T, shades []int, round bool) int {
	t.Helper()
	n, e := shade.Most(shades, round)
	if e != api.OK {
		t.Fatalf("Most of %v: %d", shades, e)
	}
	return n
}

// P7.10: the greatest sum of a round box, and how far that of a straight box is below it.
func TestHalves(t *testing.T) {
	for _, b := range boxes() {
		if b.round {
			continue
		}
		sorted := slices.Sorted(slices.Values(b.shades))
		half := len(sorted) / 2
		want := 0
		for i := range half {
			want += 2 * (sorted[len(sorted)-1-i] - sorted[i])
		}
		most, straight := mostOf(t, b.shades, true), mostOf(t, b.shades, false)
		if most != want {
			t.Fatalf("Most of %v, round: %d, want %d", b.shades, most, want)
		}
		if apart := sorted[len(sorted)-1] - sorted[0]; straight > most || straight < most-apart {
			t.Fatalf("Most of %v: straight %d, round %d", b.shades, straight, most)
		}
	}
}

// few returns all boxes with few cigars, and some of the others.
func few() []box {
	var some []box
	for i, b := range boxes() {
		if len(b.shades) < 4 || i%8 < 2 {
			some = append(some, b)
		}
	}
	return some
}

// P7.13: Least, Most, Box and Wide do not hang on the order of the shades.
func TestOrderOfShades(t *testing.T) {
	for _, b := range few() {
		many := 0
		for l := range arranged(b.shades) {
			if many++; many%(1+len(b.shades)*len(b.shades)*len(b.shades)) != 1 {
				continue
			}
			wantList(t, "Least, Most", l, list(leastOf(t, l, b.round), mostOf(t, l, b.round)), api.OK, list(b.least, b.most))
			r, e := shade.Box(l, b.round)
			wantList(t, "Box", l, r, e, b.box)
			r, e = shade.Wide(l, b.round)
			wantList(t, "Wide", l, r, e, b.wide)
		}
	}
}

// others returns the shades taken from MaxShade, turned round, and, in a round box, begun with each other cigar.
func others(b box) [][]int {
	less, turned := slices.Clone(b.shades), slices.Clone(b.shades)
	for i := range less {
		less[i] = 60 - less[i]
	}
	slices.Reverse(turned)
	all := [][]int{less, turned}
	for i := 1; b.round && i < len(b.shades); i++ {
		all = append(all, slices.Concat(b.shades[i:], b.shades[:i]))
	}
	return all
}

// P7.13: what is the same in boxes that are the same but for names.
func TestNames(t *testing.T) {
	for _, b := range boxes() {
		step, e := shade.Step(b.shades, b.round)
		sum, f := shade.Sum(b.shades, b.round)
		for _, l := range others(b) {
			n, g := shade.Step(l, b.round)
			wantNumber(t, "Step", l, n, g, step, e)
			n, g = shade.Sum(l, b.round)
			wantNumber(t, "Sum", l, n, g, sum, f)
		}
	}
	for _, b := range few() {
		for _, l := range others(b) {
			wantList(t, "Least, Most", l, list(leastOf(t, l, b.round), mostOf(t, l, b.round)), api.OK, list(b.least, b.most))
		}
	}
}

// P7.14: a cigar more does not make Most smaller, and one whose shade is there already does not make Least greater.
func TestMoreCigars(t *testing.T) {
	for _, b := range few() {
		if len(b.shades) == shade.MaxCigars {
			continue
		}
		least, most := leastOf(t, b.shades, b.round), mostOf(t, b.shades, b.round)
		for _, s := range append(list(0, 1, 2, 29, 30, 41, 59, 60), b.shades...) {
			more := append(slices.Clone(b.shades), s)
			if now := mostOf(t, more, b.round); now < most {
				t.Fatalf("Most of %v, %v: %d, with one cigar less %d", more, b.round, now, most)
			}
			if now := leastOf(t, more, b.round); slices.Contains(b.shades, s) && now > least {
				t.Fatalf("Least of %v, %v: %d, with one cigar less %d", more, b.round, now, least)
			}
		}
	}
}
