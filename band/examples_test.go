package band_test

import (
	"testing"

	"vitola/api"
	"vitola/band"
)

// Two words of the table of examples of the chapter.
const (
	wordE = "aabaabab"
	wordF = "abbaab"
)

func TestExamplesOfMake(t *testing.T) {
	for _, x := range []struct {
		boxes, bands int
		want         string
	}{{8, 3, wordE}, {6, 3, "ababab"}, {5, 0, "aaaaa"}} {
		word, e := band.Make(x.boxes, x.bands)
		wantWord(t, "Make", x, word, e, x.want)
	}
	if word, e := band.Make(3, 4); word != "" || e != api.ErrRange {
		t.Errorf("Make of 3, 4: %q %d", word, e)
	}
	for number, want := range list(2, 5, 7) {
		place, e := band.Place(8, 3, number)
		wantNumber(t, "Place of 8, 3", number, place, e, want, api.OK)
	}
	place, e := band.Place(8, 3, 3)
	wantNumber(t, "Place of 8, 3", 3, place, e, 0, api.ErrNone)
	for _, x := range []struct {
		boxes, bands, want int
		e                  api.Errno
	}{{8, 3, 3, api.OK}, {6, 3, 0, api.ErrLost}, {5, 1, 1, api.OK}, {1, 1, 0, api.ErrLost}} {
		m, e := band.Split(x.boxes, x.bands)
		wantNumber(t, "Split", x, m, e, x.want, x.e)
	}
}

func TestExamplesOfEven(t *testing.T) {
	for word, want := range map[string]bool{wordE: true, wordF: false, "abba": false} {
		so, e := band.Even(word)
		wantIs(t, "Even", word, so, e, want)
	}
	for word, want := range map[string]bool{"abba": true, "aabb": false} {
		so, e := band.Straight(word)
		wantIs(t, "Straight", word, so, e, want)
	}
	if more, fewer, length, e := band.Against(wordF); more != 1 || fewer != 3 || length != 2 || e != api.OK {
		t.Errorf("Against of %s: %d %d %d %d", wordF, more, fewer, length, e)
	}
	if more, fewer, length, e := band.Against(wordE); more != 0 || fewer != 0 || length != 0 || e != api.ErrClash {
		t.Errorf("Against of %s: %d %d %d %d", wordE, more, fewer, length, e)
	}
	for _, x := range []struct {
		more, fewer, length int
		want                api.Errno
	}{{1, 3, 2, api.OK}, {1, 0, 2, api.ErrProof}, {1, 6, 2, api.ErrNone}, {1, 3, 7, api.ErrRange}} {
		if e := band.Proves(wordF, x.more, x.fewer, x.length); e != x.want {
			t.Errorf("Proves of %s, %v: %d", wordF, x, e)
		}
	}
	for boxes, want := range map[int]int{1: 2, 4: 14, 5: 24, 16: 498} {
		many, e := band.Count(boxes)
		wantNumber(t, "Count", boxes, many, e, want, api.OK)
	}
	for word, want := range map[string]api.Errno{"": api.ErrEmpty, "abc": api.ErrForm} {
		if e := band.Check(word); e != want {
			t.Errorf("Check of %q: %d", word, e)
		}
	}
}

func TestExamplesOfTurns(t *testing.T) {
	word, e := band.Turn(wordE, 2)
	wantWord(t, "Turn of E", 2, word, e, "baababaa")
	if word, e := band.Turn(wordE, 8); word != "" || e != api.ErrRange {
		t.Errorf("Turn of %s, 8: %q %d", wordE, word, e)
	}
	for word, want := range map[string]int{wordE: 8, "abab": 2} {
		many, e := band.Turns(word)
		wantNumber(t, "Turns", word, many, e, want, api.OK)
	}
	for _, x := range []struct {
		a, b string
		want int
		e    api.Errno
	}{{wordE, "baababaa", 2, api.OK}, {"ab", "aa", 0, api.ErrLost}, {"ab", "a", 0, api.ErrShape}} {
		by, e := band.Same(x.a, x.b)
		wantNumber(t, "Same", x, by, e, x.want, x.e)
	}
}
