package band

import (
	"strings"

	"vitola/api"
)

// turned returns by how much, from some number on, a word is turned to become another one of its length, and -1 if it does not become it.
func turned(word, other string, from int) int {
	// The words that a word becomes lie side by side in the word written twice.
	by := strings.Index(strings.Repeat(word, 2)[from:], other)
	if by < 0 {
		return -1
	}
	return from + by
}

// Turn returns a word turned.
func Turn(word string, by int) (string, api.Errno) {
	if e := Check(word); e != api.OK {
		return "", e
	}
	if !isLetter(word, by) {
		return "", api.ErrRange
	}
	return strings.Repeat(word, 2)[by : by+len(word)], api.OK
}

// Turns returns how many different turns a word has.
func Turns(word string) (int, api.Errno) {
	if e := Check(word); e != api.OK {
		return 0, e
	}
	// The turns begin again with the first one that is the word itself.
	return turned(word, word, 1), api.OK
}

// Same returns by how much a word is turned to become another one.
func Same(a, b string) (int, api.Errno) {
	for _, word := range []string{a, b} {
		if e := Check(word); e != api.OK {
			return 0, e
		}
	}
	if len(a) != len(b) {
		return 0, api.ErrShape
	}
	by := turned(a, b, 0)
	if by < 0 {
		return 0, api.ErrLost
	}
	return by, api.OK
}
