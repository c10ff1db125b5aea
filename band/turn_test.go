package band_test

import (
	"testing"

	"vitola/api"
	"vitola/band"
)

// modelSame returns the smallest number by which a word becomes another one of its length.
func modelSame(a, b string) (int, api.Errno) {
	for by := range len(a) {
		if modelTurn(a, by) == b {
			return by, api.OK
		}
	}
	return 0, api.ErrLost
}

// P8.5: Turn by all numbers, Turns, and Same of a word and what it becomes.
func TestTurn(t *testing.T) {
	for f := range some(9) {
		different := map[string]bool{}
		for by := range len(f.word) {
			want := modelTurn(f.word, by)
			different[want] = true
			word, e := band.Turn(f.word, by)
			wantWord(t, "Turn", []any{f.word, by}, word, e, want)
			least, _ := modelSame(f.word, want)
			n, e := band.Same(f.word, want)
			wantNumber(t, "Same", []string{f.word, want}, n, e, least, api.OK)
		}
		n, e := band.Turns(f.word)
		wantNumber(t, "Turns", f.word, n, e, len(different), api.OK)
	}
}

// P8.5: Turns of all words is the smallest number, above 0, by which the word becomes itself.
func TestTurns(t *testing.T) {
	for f := range known() {
		want := 1
		for modelTurn(f.word, want) != f.word {
			want++
		}
		n, e := band.Turns(f.word)
		wantNumber(t, "Turns", f.word, n, e, want, api.OK)
	}
}

// P8.5: Same of any two words of the same length.
func TestSame(t *testing.T) {
	for length := 1; length <= 7; length++ {
		for a := range words(length) {
			for b := range words(length) {
				want, f := modelSame(a, b)
				n, e := band.Same(a, b)
				wantNumber(t, "Same", []string{a, b}, n, e, want, f)
			}
		}
	}
}

// P8.5: Same of long words, and some that differ from a turn in two letters.
func TestSameOfLong(t *testing.T) {
	for f := range some(3) {
		n := len(f.word)
		for by := range n {
			other := []byte(modelTurn(f.word, by))
			other[by], other[n-1] = other[n-1], other[by]
			want, g := modelSame(f.word, string(other))
			same, e := band.Same(f.word, string(other))
			wantNumber(t, "Same", []string{f.word, string(other)}, same, e, want, g)
		}
	}
}

// F6: a word that was turned is turned back.
func TestTurnBack(t *testing.T) {
	for f := range some(9) {
		n := len(f.word)
		for by := range n {
			word, _ := band.Turn(f.word, by)
			back, e := band.Turn(word, (n-by)%n)
			wantWord(t, "Turn", []any{word, (n - by) % n}, back, e, f.word)
		}
	}
}

// P8.12: what is even and what is straight does not hang on where a word begins, on which side, and which letter is which.
func TestNames(t *testing.T) {
	for f := range some(12) {
		for by := range len(f.word) {
			word, _ := band.Turn(f.word, by)
			so, e := band.Even(word)
			wantIs(t, "Even", word, so, e, f.even)
		}
		for _, word := range []string{backwards(f.word), exchanged(f.word), backwards(exchanged(f.word))} {
			so, e := band.Even(word)
			wantIs(t, "Even", word, so, e, f.even)
			so, e = band.Straight(word)
			wantIs(t, "Straight", word, so, e, f.straight)
		}
	}
}
