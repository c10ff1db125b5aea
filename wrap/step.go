package wrap

import "vitola/api"

// chain returns the quotients that lead to the greatest common divisor of two numbers, and this divisor.
func chain(number, by int) (quotients []int, divisor int) {
	for by != 0 {
		quotients = append(quotients, number/by)
		number, by = by, number%by
	}
	return quotients, number
}

// whole returns the wrapper of marks and a step that has all turns that begin at different marks.
func whole(marks, step int) (Wrapper, api.Errno) {
	w := Wrapper{Marks: marks, Step: step, Turns: 1}
	if e := Check(w); e != api.OK {
		return Wrapper{}, e
	}
	w.Turns = w.different()
	return w, api.OK
}

// even returns whether gaps have at most two widths.
func (w Wrapper) even() bool {
	return len(w.widths()) <= 2
}

// distance returns the distance of the mark of a turn.
func (w Wrapper) distance(turn int) int {
	mark := w.mark(turn)
	return min(mark, w.Marks-mark)
}

// Evens returns all numbers of turns for which the wrapper is even.
func Evens(marks, step int) ([]int, api.Errno) {
	w, e := whole(marks, step)
	if e != api.OK {
		return nil, e
	}
	var evens []int
	for turns := 1; turns <= w.Turns; turns++ {
		if (Wrapper{marks, step, turns}).even() {
			evens = append(evens, turns)
		}
	}
	return evens, api.OK
}

// First returns the first turn that begins at one of some marks.
func First(marks, step, low, high int) (int, api.Errno) {
	w, e := whole(marks, step)
	if e != api.OK {
		return 0, e
	}
	if !w.isMark(low) || !w.isMark(high) {
		return 0, api.ErrNone
	}
	if low > high {
		return 0, api.ErrOrder
	}
	return w.first(low, high)
}

// Nearer returns all turns that come nearer.
func Nearer(marks, step int) ([]int, api.Errno) {
	w, e := whole(marks, step)
	if e != api.OK {
		return nil, e
	}
	var nearer []int
	nearest := w.Marks
	// The turn behind those of the whole wrapper is the one that is back at mark 0.
	for turn := 1; turn <= w.Turns; turn++ {
		if distance := w.distance(turn); distance < nearest {
			nearest = distance
			nearer = append(nearer, turn)
		}
	}
	return nearer, api.OK
}

// Chain returns quotients.
func Chain(marks, step int) ([]int, api.Errno) {
	if _, e := whole(marks, step); e != api.OK {
		return nil, e
	}
	quotients, _ := chain(marks, step)
	return quotients, api.OK
}
