package band_test

import (
	"math"
	"testing"

	"vitola/api"
	"vitola/band"
)

// P8.1, P8.6: Even and Straight of all words.
func TestEven(t *testing.T) {
	for f := range known() {
		so, e := band.Even(f.word)
		wantIs(t, "Even", f.word, so, e, f.even)
		so, e = band.Straight(f.word)
		wantIs(t, "Straight", f.word, so, e, f.straight)
	}
}

// P8.2, P8.11: Against of all words, which Proves accepts.
func TestAgainst(t *testing.T) {
	for f := range known() {
		more, fewer, length, e := band.Against(f.word)
		want := api.OK
		if f.even {
			want = api.ErrClash
		}
		if more != f.more || fewer != f.fewer || length != f.length || e != want {
			t.Fatalf("Against of %s: %d %d %d %d, want %+v", f.word, more, fewer, length, e, f)
		}
		if f.even {
			continue
		}
		if e := band.Proves(f.word, more, fewer, length); e != api.OK {
			t.Fatalf("Proves of %s, %d, %d, %d: %d", f.word, more, fewer, length, e)
		}
	}
}

// modelProves counts the letters b of both parts.
func modelProves(word string, more, fewer, length int) api.Errno {
	n := len(word)
	if more < 0 || more >= n || fewer < 0 || fewer >= n {
		return api.ErrNone
	}
	if length < 1 || length > n {
		return api.ErrRange
	}
	if modelBands(word, more, length) < modelBands(word, fewer, length)+2 {
		return api.ErrProof
	}
	return api.OK
}

func checkProves(t *testing.T, word string, more, fewer, length int) {
	t.Helper()
	want := modelProves(word, more, fewer, length)
	if e := band.Proves(word, more, fewer, length); e != want {
		t.Fatalf("Proves of %s, %d, %d, %d: %d, want %d", word, more, fewer, length, e, want)
	}
}

// P8.2, P8.11: Proves of any two parts; those of an even word prove nothing.
func TestProves(t *testing.T) {
	for f := range some(6) {
		n := len(f.word)
		for more := -1; more <= n; more++ {
			for fewer := -1; fewer <= n; fewer++ {
				for length := range n + 2 {
					checkProves(t, f.word, more, fewer, length)
					if f.even && band.Proves(f.word, more, fewer, length) == api.OK {
						t.Fatalf("Proves of %s, which is even, %d, %d, %d", f.word, more, fewer, length)
					}
				}
			}
		}
		for _, length := range list(math.MinInt, -1, 1<<32+2, math.MaxInt) {
			checkProves(t, f.word, 0, n-1, length)
		}
	}
}

// P8.6: Count of all words that are straight.
func TestCount(t *testing.T) {
	for n := 1; n <= band.MaxBoxes; n++ {
		want := 0
		for _, f := range facts()[n] {
			if f.straight {
				want++
			}
		}
		many, e := band.Count(n)
		wantNumber(t, "Count", n, many, e, want, api.OK)
	}
}

// P8.10: Count is made of how many numbers have no common divisor with each other one.
func TestCountOfDivisors(t *testing.T) {
	for n := 1; n <= band.MaxBoxes; n++ {
		want := 1
		for i := 1; i <= n; i++ {
			for other := 1; other <= i; other++ {
				if modelDivides(i, other) == 1 {
					want += n - i + 1
				}
			}
		}
		many, e := band.Count(n)
		wantNumber(t, "Count", n, many, e, want, api.OK)
	}
}

// P8.10: each straight part of an even word is straight.
func TestStraightParts(t *testing.T) {
	for f := range known() {
		if !f.even {
			continue
		}
		for from := range len(f.word) {
			for to := from + 1; to <= len(f.word); to++ {
				so, e := band.Straight(f.word[from:to])
				wantIs(t, "Straight", f.word[from:to], so, e, true)
			}
		}
	}
}
