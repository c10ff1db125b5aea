package band

import (
	"slices"
	"strings"

	"vitola/api"
)

// bandsOf returns how many letters b a part has.
func bandsOf(part string) int {
	many := 0
	for _, letter := range part {
		if letter == with {
			many++
		}
	}
	return many
}

// bandsAlong returns, by the letter at which it begins, how many letters b each straight part of a length has.
func bandsAlong(word string, length int) []int {
	var all []int
	for from := range len(word) - length + 1 {
		all = append(all, bandsOf(word[from:from+length]))
	}
	return all
}

// bandsAround returns the same for all parts of the round.
func bandsAround(word string, length int) []int {
	// Straight parts of the word, continued from its beginning, are the parts of its round.
	return bandsAlong(strings.Repeat(word, 2)[:len(word)+length-1], length)
}

// clash returns the first two parts of the round that differ too much, and whether there are any.
func clash(word string) (more, fewer, length int, found bool) {
	for length = 1; length <= len(word); length++ {
		around := bandsAround(word, length)
		fewest := slices.Min(around)
		more = slices.IndexFunc(around, func(many int) bool { return many-fewest > 1 })
		if more >= 0 {
			fewer = slices.IndexFunc(around, func(few int) bool { return around[more]-few > 1 })
			return more, fewer, length, true
		}
	}
	return 0, 0, 0, false
}

// Even returns whether a word is even.
func Even(word string) (bool, api.Errno) {
	if e := Check(word); e != api.OK {
		return false, e
	}
	_, _, _, found := clash(word)
	return !found, api.OK
}

// Against returns two parts that differ too much.
func Against(word string) (more, fewer, length int, e api.Errno) {
	if e := Check(word); e != api.OK {
		return 0, 0, 0, e
	}
	more, fewer, length, found := clash(word)
	if !found {
		return 0, 0, 0, api.ErrClash
	}
	return more, fewer, length, api.OK
}

// Proves checks two such parts.
func Proves(word string, more, fewer, length int) api.Errno {
	if e := Check(word); e != api.OK {
		return e
	}
	if !isLetter(word, more) || !isLetter(word, fewer) {
		return api.ErrNone
	}
	if length < 1 || length > len(word) {
		return api.ErrRange
	}
	around := bandsAround(word, length)
	if around[more]-around[fewer] < 2 {
		return api.ErrProof
	}
	return api.OK
}

// Straight returns whether a word is straight.
func Straight(word string) (bool, api.Errno) {
	if e := Check(word); e != api.OK {
		return false, e
	}
	for length := 1; length <= len(word); length++ {
		along := bandsAlong(word, length)
		if slices.Max(along)-slices.Min(along) > 1 {
			return false, api.OK
		}
	}
	return true, api.OK
}

// divisor returns the greatest number that divides two others.
func divisor(one, other int) int {
	for other > 0 {
		one, other = other, one%other
	}
	return one
}

// coprimes returns how many numbers from 1 to this one have no common divisor above 1 with it.
func coprimes(number int) int {
	many := 0
	for other := 1; other <= number; other++ {
		if divisor(number, other) == 1 {
			many++
		}
	}
	return many
}

// Count returns how many straight words there are.
func Count(boxes int) (int, api.Errno) {
	if !isRound(boxes) {
		return 0, api.ErrRange
	}
	// P8.10 gives this sum, so that no words need be looked at.
	many := 1
	for i := 1; i <= boxes; i++ {
		many += (boxes - i + 1) * coprimes(i)
	}
	return many, api.OK
}
