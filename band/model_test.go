package band_test

import (
	"iter"
	"math"
	"math/rand"
	"slices"
	"sync"
	"testing"

	"vitola/api"
	"vitola/band"
)

// The tests compare the package with a model that follows the words of the chapter and shares nothing with the package.

func list(numbers ...int) []int { return numbers }

// extremes are numbers that are never right, among them some that look right if they are cut to 32 bits.
func extremes() []int {
	return list(math.MinInt, math.MinInt+1, -1<<32, -1<<31, -17, -2, -1, 17, 18, 1<<31-1, 1<<32, 1<<32+3, 1<<62, math.MaxInt)
}

// wordOf returns the word of so many letters whose letters b are the bits of a number, the last letter the lowest bit.
func wordOf(length, bits int) string {
	word := make([]byte, length)
	for i := range word {
		word[i] = 'a' + byte(bits>>(length-1-i)&1)
	}
	return string(word)
}

// words gives all words of so many letters in ascending order.
func words(length int) iter.Seq[string] {
	return func(yield func(string) bool) {
		for bits := range 1 << length {
			if !yield(wordOf(length, bits)) {
				return
			}
		}
	}
}

// modelBands counts the letters b of a part, letter by letter around the word.
func modelBands(word string, from, length int) int {
	many := 0
	for i := range length {
		if word[(from+i)%len(word)] == 'b' {
			many++
		}
	}
	return many
}

// A fact is what is true of a word.
type fact struct {
	word                string
	even, straight      bool
	more, fewer, length int // zero if the word is even
}

// modelAgainst looks at any two parts, in the order that is promised.
func modelAgainst(word string) (more, fewer, length int, found bool) {
	n := len(word)
	for length := 1; length <= n; length++ {
		for more := range n {
			for fewer := range n {
				if modelBands(word, more, length) >= modelBands(word, fewer, length)+2 {
					return more, fewer, length, true
				}
			}
		}
	}
	return 0, 0, 0, false
}

// modelStraight looks at any two straight parts.
func modelStraight(word string) bool {
	n := len(word)
	for one := range n {
		for other := range n {
			for length := 1; length <= n-max(one, other); length++ {
				if modelBands(word, one, length) > modelBands(word, other, length)+1 {
					return false
				}
			}
		}
	}
	return true
}

func modelFact(word string) fact {
	more, fewer, length, found := modelAgainst(word)
	return fact{word: word, even: !found, straight: modelStraight(word), more: more, fewer: fewer, length: length}
}

// facts has, for each number of letters, all words.
var facts = sync.OnceValue(func() [][]fact {
	all := make([][]fact, band.MaxBoxes+1)
	for length := 1; length <= band.MaxBoxes; length++ {
		for word := range words(length) {
			all[length] = append(all[length], modelFact(word))
		}
	}
	return all
})

// known gives all facts, the shortest words first.
func known() iter.Seq[fact] {
	return func(yield func(fact) bool) {
		for _, sameLength := range facts() {
			for _, f := range sameLength {
				if !yield(f) {
					return
				}
			}
		}
	}
}

// some gives all facts of words of up to so many letters, all of longer even words, and of the rest a few at random.
func some(letters int) iter.Seq[fact] {
	return func(yield func(fact) bool) {
		random := rand.New(rand.NewSource(8))
		for f := range known() {
			if len(f.word) > letters && !f.even && random.Intn(500) > 0 {
				continue
			}
			if !yield(f) {
				return
			}
		}
	}
}

// modelMake compares the whole parts of its fractions box by box.
func modelMake(n, k int) string {
	word := ""
	whole := func(i int) int {
		parts := 0
		for (parts+1)*n <= i*k {
			parts++
		}
		return parts
	}
	for i := range n {
		if whole(i+1) != whole(i) {
			word += "b"
		} else {
			word += "a"
		}
	}
	return word
}

// modelTurn takes the letters one after the other.
func modelTurn(word string, by int) string {
	turned := make([]byte, len(word))
	for i := range turned {
		turned[i] = word[(by+i)%len(word)]
	}
	return string(turned)
}

// modelDivides returns the greatest number that divides both; at least one of them is above 0.
func modelDivides(n, k int) int {
	divisor := max(n, k)
	for n%divisor != 0 || k%divisor != 0 {
		divisor--
	}
	return divisor
}

// rounds gives all numbers of boxes, each with all numbers of bands.
func rounds() iter.Seq2[int, int] {
	return func(yield func(int, int) bool) {
		for n := 1; n <= band.MaxBoxes; n++ {
			for k := range n + 1 {
				if !yield(n, k) {
					return
				}
			}
		}
	}
}

// backwards returns a word read backwards.
func backwards(word string) string {
	letters := []byte(word)
	slices.Reverse(letters)
	return string(letters)
}

// exchanged returns a word in which a and b are exchanged.
func exchanged(word string) string {
	letters := []byte(word)
	for i, letter := range letters {
		letters[i] = 'a' + 'b' - letter
	}
	return string(letters)
}

// An input has all that calls may take.
type input struct {
	word, other         string
	more, fewer, length int
	by                  int
	boxes, bands, band  int
}

// An answer has all that calls may return beside an error.
type answer struct {
	is      bool
	numbers [3]int
	word    string
}

// A call takes what it needs of an input.
type call struct {
	name string
	run  func(x input) (answer, api.Errno)
}

// is, number and written return an answer of one part.
func is(so bool, e api.Errno) (answer, api.Errno)       { return answer{is: so}, e }
func number(n int, e api.Errno) (answer, api.Errno)     { return answer{numbers: [3]int{n}}, e }
func written(w string, e api.Errno) (answer, api.Errno) { return answer{word: w}, e }

// callsOfWords are the calls that have a word.
func callsOfWords() []call {
	return []call{
		{"Check", func(x input) (answer, api.Errno) { return answer{}, band.Check(x.word) }},
		{"Even", func(x input) (answer, api.Errno) { return is(band.Even(x.word)) }},
		{"Against", func(x input) (answer, api.Errno) {
			more, fewer, length, e := band.Against(x.word)
			return answer{numbers: [3]int{more, fewer, length}}, e
		}},
		{"Proves", func(x input) (answer, api.Errno) {
			return answer{}, band.Proves(x.word, x.more, x.fewer, x.length)
		}},
		{"Turn", func(x input) (answer, api.Errno) { return written(band.Turn(x.word, x.by)) }},
		{"Turns", func(x input) (answer, api.Errno) { return number(band.Turns(x.word)) }},
		{"Same", func(x input) (answer, api.Errno) { return number(band.Same(x.word, x.other)) }},
		{"Straight", func(x input) (answer, api.Errno) { return is(band.Straight(x.word)) }},
	}
}

// callsOfBands are the calls that have numbers of boxes and bands.
func callsOfBands() []call {
	return []call{
		{"Make", func(x input) (answer, api.Errno) { return written(band.Make(x.boxes, x.bands)) }},
		{"Place", func(x input) (answer, api.Errno) { return number(band.Place(x.boxes, x.bands, x.band)) }},
		{"Split", func(x input) (answer, api.Errno) { return number(band.Split(x.boxes, x.bands)) }},
	}
}

// calls are all calls.
func calls() []call {
	count := call{"Count", func(x input) (answer, api.Errno) { return number(band.Count(x.boxes)) }}
	return slices.Concat(callsOfWords(), callsOfBands(), []call{count})
}

// wantError fails if a call does not just return an error.
func wantError(t *testing.T, c call, x input, want api.Errno) {
	t.Helper()
	if r, e := c.run(x); r != (answer{}) || e != want {
		t.Fatalf("%s of %+v: %v %d, want error %d only", c.name, x, r, e, want)
	}
}

// wantIs fails if a call that tells whether something is so tells something else.
func wantIs(t *testing.T, what string, of any, so bool, e api.Errno, want bool) {
	t.Helper()
	if so != want || e != api.OK {
		t.Fatalf("%s of %v: %v %d, want %v", what, of, so, e, want)
	}
}

// wantWord fails if a call that has a word as its result has another one.
func wantWord(t *testing.T, what string, of any, w string, e api.Errno, want string) {
	t.Helper()
	if w != want || e != api.OK {
		t.Fatalf("%s of %v: %q %d, want %q", what, of, w, e, want)
	}
}

// wantNumber fails if a call that has a number as its result has another one.
func wantNumber(t *testing.T, what string, of any, n int, e api.Errno, want int, f api.Errno) {
	t.Helper()
	if n != want || e != f {
		t.Fatalf("%s of %v: %d %d, want %d %d", what, of, n, e, want, f)
	}
}
