package band_test

import (
	"strings"
	"testing"

	"vitola/api"
	"vitola/band"
)

// made returns what Make returns, which must not be an error.
func made(t *testing.T, boxes, bands int) string {
	t.Helper()
	word, e := band.Make(boxes, bands)
	if e != api.OK {
		t.Fatalf("Make of %d, %d: %d", boxes, bands, e)
	}
	return word
}

// P8.3: Make of all boxes and bands, and Place of all bands.
func TestMake(t *testing.T) {
	for n, k := range rounds() {
		want := modelMake(n, k)
		word, e := band.Make(n, k)
		wantWord(t, "Make", list(n, k), word, e, want)
		j := 0
		for i := range n {
			if want[i] != 'b' {
				continue
			}
			place, e := band.Place(n, k, j)
			wantNumber(t, "Place", list(n, k, j), place, e, i, api.OK)
			j++
		}
		if j != k {
			t.Errorf("Make of %d, %d: %d bands", n, k, j)
		}
	}
}

// P8.9: the letter of a band, by its number.
func TestPlaces(t *testing.T) {
	for n, k := range rounds() {
		for j := range k {
			least := 0
			for least*k < (j+1)*n {
				least++
			}
			place, e := band.Place(n, k, j)
			wantNumber(t, "Place", list(n, k, j), place, e, least-1, api.OK)
		}
	}
}

// P8.4: Split of all boxes and bands.
func TestSplit(t *testing.T) {
	for n, k := range rounds() {
		want, f := 0, api.ErrLost
		for m := 1; m < n && modelDivides(n, k) == 1; m++ {
			if m*k%n == 1 {
				want, f = m, api.OK
			}
		}
		m, e := band.Split(n, k)
		wantNumber(t, "Split", list(n, k), m, e, want, f)
		if lost := n == 1 || modelDivides(n, k) > 1; lost != (e == api.ErrLost) {
			t.Errorf("Split of %d, %d: %d %d", n, k, m, e)
		}
	}
}

// P8.8: the word is made of those before and behind Split.
func TestSplitWords(t *testing.T) {
	for n, k := range rounds() {
		m, e := band.Split(n, k)
		if e != api.OK {
			continue
		}
		word := made(t, n, k)
		bands := strings.Count(word[:m], "b")
		if both := made(t, m, bands) + made(t, n-m, k-bands); both != word {
			t.Errorf("Make of %d, %d: %s, but %s of the parts", n, k, word, both)
		}
		if m*(k-bands) != (n-m)*bands+1 {
			t.Errorf("Split of %d, %d: %d with %d bands", n, k, m, bands)
		}
	}
}

// P8.7: the even word is the smallest of its turns, which are as many as its boxes, divided by what divides boxes and bands.
func TestTurnsOfEven(t *testing.T) {
	for n, k := range rounds() {
		word := made(t, n, k)
		for by := range n {
			if turned, e := band.Turn(word, by); turned < word || e != api.OK {
				t.Errorf("Turn of %s, %d: %s %d", word, by, turned, e)
			}
		}
		many, e := band.Turns(word)
		wantNumber(t, "Turns", word, many, e, n/modelDivides(n, k), api.OK)
	}
}

// P8.7: a word is even just if the even word of as many bands becomes it.
func TestEvenIsTurn(t *testing.T) {
	for f := range known() {
		_, e := band.Same(made(t, len(f.word), strings.Count(f.word, "b")), f.word)
		so, g := band.Even(f.word)
		wantIs(t, "Even", f.word, so, g, e == api.OK)
		if !so && e != api.ErrLost {
			t.Fatalf("Same of the even word and %s: %d", f.word, e)
		}
	}
}

// P8.12: as many boxes without a band as there were with one.
func TestMakeOfOthers(t *testing.T) {
	for n, k := range rounds() {
		if word, other := made(t, n, k), made(t, n, n-k); other != backwards(exchanged(word)) {
			t.Errorf("Make of %d, %d: %s, and of %d, %d: %s", n, k, word, n, n-k, other)
		}
	}
}

// P8.13: several times as many boxes and bands.
func TestMakeOfMore(t *testing.T) {
	for n, k := range rounds() {
		for times := 1; times*n <= band.MaxBoxes; times++ {
			word, e := band.Make(times*n, times*k)
			wantWord(t, "Make", list(times*n, times*k), word, e, strings.Repeat(made(t, n, k), times))
		}
	}
}
