package band_test

import (
	"math"
	"strings"
	"testing"

	"vitola/api"
	"vitola/band"
)

func TestLimits(t *testing.T) {
	if band.MaxBoxes != 16 {
		t.Error(band.MaxBoxes)
	}
}

// modelCheck looks at the bytes of a word one by one.
func modelCheck(word string) api.Errno {
	if len(word) == 0 {
		return api.ErrEmpty
	}
	if len(word) > 16 {
		return api.ErrMany
	}
	for i := range len(word) {
		if word[i] != 'a' && word[i] != 'b' {
			return api.ErrForm
		}
	}
	return api.OK
}

// checkWord compares Check with the model; the other calls of a word return its error, whatever else is wrong.
func checkWord(t *testing.T, word string) {
	t.Helper()
	want := modelCheck(word)
	if e := band.Check(word); e != want {
		t.Fatalf("Check of %d letters, %q: %d, want %d", len(word), word[:min(len(word), 20)], e, want)
	}
	if want == api.OK {
		return
	}
	for _, c := range callsOfWords() {
		for _, number := range list(math.MinInt, -1, 0, 1, 2, 17) {
			for _, other := range []string{"", "x", "ab", word, strings.Repeat("a", 17)} {
				wantError(t, c, input{word: word, other: other, more: number, fewer: number, length: number, by: number}, want)
			}
		}
	}
}

// P8.1: all words of few letters of some kinds, right ones and wrong ones.
func TestCheck(t *testing.T) {
	letters := []string{"a", "b", "c", "`", "A", "B", " ", "\x00", "\xff", "é", "š", "Ţ", "\U00010061"}
	words := []string{""}
	for range 3 {
		var longer []string
		for _, word := range words {
			checkWord(t, word)
			for _, letter := range letters {
				longer = append(longer, word+letter)
			}
		}
		words = longer
	}
	for _, word := range words {
		checkWord(t, word)
	}
}

// P8.1: each byte at each place of words of each length.
func TestCheckAtEachPlace(t *testing.T) {
	for length := range 20 {
		right := []byte(strings.Repeat("abb", length)[:length])
		checkWord(t, string(right))
		for place := range right {
			for b := range 256 {
				word := []byte(string(right))
				word[place] = byte(b)
				checkWord(t, string(word))
			}
		}
	}
}

// P8.1: too many letters are ErrMany before any of them is looked at.
func TestManyLetters(t *testing.T) {
	for _, length := range list(17, 18, 32, 33, 256, 272, 65552, 1_000_000) {
		for _, letter := range []string{"a", "b", "x", "\x00", "é"} {
			checkWord(t, strings.Repeat(letter, length))
		}
		checkWord(t, "x"+strings.Repeat("a", length-1))
		checkWord(t, strings.Repeat("b", length-1)+"x")
	}
}

// P8.1: all words within the bounds are accepted.
func TestBounds(t *testing.T) {
	for f := range known() {
		if e := band.Check(f.word); e != api.OK {
			t.Fatalf("Check of %s: %d", f.word, e)
		}
	}
}

// P8.2: numbers that are none of a letter, before a length that is out of range.
func TestErrorOfProves(t *testing.T) {
	for n := 1; n <= band.MaxBoxes; n++ {
		word := strings.Repeat("aabb", 4)[:n]
		numbers := append(extremes(), -1, 0, n-1, n, n+1)
		for _, more := range numbers {
			for _, fewer := range numbers {
				for _, length := range numbers {
					checkProves(t, word, more, fewer, length)
				}
			}
		}
	}
}

// P8.3, P8.4: numbers of boxes and bands that are out of range, whatever band is asked for.
func TestRangeOfBands(t *testing.T) {
	for _, c := range callsOfBands() {
		for _, number := range append(extremes(), 0, 1) {
			for _, boxes := range append(extremes(), 0) {
				for _, bands := range append(extremes(), 0, 1, boxes) {
					wantError(t, c, input{boxes: boxes, bands: bands, band: number}, api.ErrRange)
				}
			}
			for boxes := 1; boxes <= band.MaxBoxes; boxes++ {
				for _, bands := range append(extremes(), boxes+1, boxes+2) {
					wantError(t, c, input{boxes: boxes, bands: bands, band: number}, api.ErrRange)
				}
			}
		}
	}
}

// P8.3: what is no band.
func TestNoBand(t *testing.T) {
	for n, k := range rounds() {
		for _, number := range append(extremes(), k, k+1) {
			place, e := band.Place(n, k, number)
			wantNumber(t, "Place", list(n, k, number), place, e, 0, api.ErrNone)
		}
	}
}

// P8.5: numbers by which no word is turned.
func TestRangeOfTurn(t *testing.T) {
	for n := 1; n <= band.MaxBoxes; n++ {
		word := strings.Repeat("ab", 8)[:n]
		for _, by := range append(extremes(), n, n+1, 2*n) {
			if w, e := band.Turn(word, by); w != "" || e != api.ErrRange {
				t.Errorf("Turn of %s, %d: %q %d", word, by, w, e)
			}
		}
	}
}

// P8.5: errors of Same, in their order.
func TestErrorOfSame(t *testing.T) {
	words := []string{"", "x", "ab\xff", "é", "a", "b", "ab", "ba", "aab", "abab", strings.Repeat("a", 16), strings.Repeat("ab", 8), strings.Repeat("a", 17), strings.Repeat("x", 17)}
	for _, a := range words {
		for _, b := range words {
			want := modelCheck(a)
			if want == api.OK {
				want = modelCheck(b)
			}
			if want == api.OK && len(a) != len(b) {
				want = api.ErrShape
			}
			by, e := band.Same(a, b)
			if want == api.OK && (e == api.OK || e == api.ErrLost && by == 0) {
				continue
			}
			wantNumber(t, "Same", []string{a, b}, by, e, 0, want)
		}
	}
}

// P8.6: numbers of boxes that are out of range.
func TestRangeOfCount(t *testing.T) {
	for _, boxes := range append(extremes(), 0) {
		many, e := band.Count(boxes)
		wantNumber(t, "Count", boxes, many, e, 0, api.ErrRange)
	}
}

// P1: each call ends with the extreme numbers, and has the same result the second time.
func TestSameAgain(t *testing.T) {
	numbers := append(extremes(), 0, 1, 2, 7, 8, 15, 16)
	for _, c := range calls() {
		for _, n := range numbers {
			for _, m := range numbers {
				for _, word := range []string{"", "a", "abbaab", "aabaabab", "abababababababab", "xyz"} {
					checkAgain(t, c, input{word: word, other: word, more: n, fewer: m, length: n, by: m, boxes: n, bands: m, band: n})
					checkAgain(t, c, input{word: word, other: "baabaaba", more: n, fewer: 1, length: m, by: n, boxes: 16, bands: n, band: m})
				}
			}
		}
	}
}

func checkAgain(t *testing.T, c call, x input) {
	t.Helper()
	r, e := c.run(x)
	if s, f := c.run(x); r != s || e != f {
		t.Fatalf("%s of %+v: %v %d, then %v %d", c.name, x, r, e, s, f)
	}
	if e != api.OK && r != (answer{}) {
		t.Fatalf("%s of %+v: %v with the error %d", c.name, x, r, e)
	}
}
