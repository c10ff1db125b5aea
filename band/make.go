package band

import "vitola/api"

// even returns the even word of so many boxes and bands.
func even(boxes, bands int) string {
	letters := make([]rune, boxes)
	for i := range letters {
		letters[i] = without
		if (i+1)*bands/boxes != i*bands/boxes {
			letters[i] = with
		}
	}
	return string(letters)
}

// place returns the letter of a word that is the b with a number, and -1 if there is none.
func place(word string, band int) int {
	for i, letter := range word {
		if letter != with {
			continue
		}
		if band == 0 {
			return i
		}
		band--
	}
	return -1
}

// Make returns the even word.
func Make(boxes, bands int) (string, api.Errno) {
	if e := checkBands(boxes, bands); e != api.OK {
		return "", e
	}
	return even(boxes, bands), api.OK
}

// Place returns the letter of a band.
func Place(boxes, bands, band int) (int, api.Errno) {
	if e := checkBands(boxes, bands); e != api.OK {
		return 0, e
	}
	if band < 0 || band >= bands {
		return 0, api.ErrNone
	}
	return place(even(boxes, bands), band), api.OK
}

// Split returns where the even word is made of two others.
func Split(boxes, bands int) (int, api.Errno) {
	if e := checkBands(boxes, bands); e != api.OK {
		return 0, e
	}
	for m := 1; m < boxes; m++ {
		if m*bands%boxes == 1 {
			return m, api.OK
		}
	}
	// What divides boxes and bands divides each of these remainders, so none of them was 1.
	return 0, api.ErrLost
}
