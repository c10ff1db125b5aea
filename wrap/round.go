package wrap

import (
	"cmp"
	"slices"

	"vitola/api"
)

// A side is where one goes from a mark.
type side int

const (
	ahead side = iota
	behind
)

// beside returns the mark beside another one.
func (w Wrapper) beside(mark int, to side) int {
	if to == behind {
		return (mark + w.Marks - 1) % w.Marks
	}
	return (mark + 1) % w.Marks
}

// neighbour returns the turn of the wrapper that is met first if one goes to a side from the mark of a turn, which may be the one behind the last one of the wrapper.
func (w Wrapper) neighbour(turn int, to side) int {
	mark, met := w.mark(turn), turn
search:
	for range w.Marks {
		mark = w.beside(mark, to)
		for met = range w.Turns {
			if w.mark(met) == mark {
				break search
			}
		}
	}
	return met
}

// round returns all turns around the circle.
func (w Wrapper) round() []int {
	turns := make([]int, w.Turns)
	for turn := range turns {
		turns[turn] = turn
	}
	slices.SortFunc(turns, func(a, b int) int { return cmp.Compare(w.mark(a), w.mark(b)) })
	return turns
}

// gaps returns the gaps behind the turns, as they follow one another around the circle.
func (w Wrapper) gaps() []int {
	round := w.round()
	gaps := make([]int, len(round))
	end := w.Marks
	for i, turn := range slices.Backward(round) {
		gaps[i] = end - w.mark(turn)
		end = w.mark(turn)
	}
	return gaps
}

// widths returns all widths of gaps, each with how many gaps have it.
func (w Wrapper) widths() [][2]int {
	var many [MaxMarks + 1]int
	for _, gap := range w.gaps() {
		many[gap]++
	}
	var widths [][2]int
	for width, number := range many {
		if number > 0 {
			widths = append(widths, [2]int{width, number})
		}
	}
	return widths
}

// Round returns all turns around the circle.
func Round(w Wrapper) ([]int, api.Errno) {
	if e := Check(w); e != api.OK {
		return nil, e
	}
	return w.round(), api.OK
}

// Gaps returns the gaps behind them.
func Gaps(w Wrapper) ([]int, api.Errno) {
	if e := Check(w); e != api.OK {
		return nil, e
	}
	return w.gaps(), api.OK
}

// Widths returns all widths of gaps, and how many gaps have them.
func Widths(w Wrapper) ([][2]int, api.Errno) {
	if e := Check(w); e != api.OK {
		return nil, e
	}
	return w.widths(), api.OK
}

// Next returns the turn that follows a turn around the circle.
func Next(w Wrapper, turn int) (int, api.Errno) {
	if e := checkTurn(w, turn); e != api.OK {
		return 0, e
	}
	return w.neighbour(turn, ahead), api.OK
}

// Before returns the turn that a turn follows.
func Before(w Wrapper, turn int) (int, api.Errno) {
	if e := checkTurn(w, turn); e != api.OK {
		return 0, e
	}
	return w.neighbour(turn, behind), api.OK
}

// Divides returns between which turns one more would begin.
func Divides(w Wrapper) (from, to int, e api.Errno) {
	if e := Check(w); e != api.OK {
		return 0, 0, e
	}
	if w.Turns == w.different() {
		return 0, 0, api.ErrLost
	}
	return w.neighbour(w.Turns, behind), w.neighbour(w.Turns, ahead), api.OK
}
