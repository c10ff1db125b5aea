package beetle_test

import (
	"slices"
	"testing"

	"vitola/api"
	"vitola/beetle"
)

// daysOf returns what Days returns, which must not be an error.
func daysOf(t *testing.T, x state) []int {
	t.Helper()
	days, e := beetle.Days(x.store())
	if e != api.OK {
		t.Fatalf("Days of %v: %d", x, e)
	}
	return days
}

// P9.2: Spread and Days.
func TestSpread(t *testing.T) {
	for x := range some(9, 600) {
		days, e := beetle.Days(x.store())
		wantList(t, "Days", x, days, e, modelDays(x))
		spread, e := beetle.Spread(x.store())
		wantList(t, "Spread", x, spread, e, modelSpread(x))
	}
}

// P9.3, P9.9: Outline, which is not greater at the end.
func TestOutline(t *testing.T) {
	for x := range some(9, 600) {
		first, last, e := beetle.Outline(x.store())
		wantList(t, "Outline", x, list(first, last), e, list(modelSides(x, x.with('s')), modelSides(x, modelSpread(x))))
		if last > first {
			t.Fatalf("Outline of %v: %d, then %d", x, first, last)
		}
	}
}

// withoutFrozen gives all states of stores of up to so many bales with none frozen, and samples of all others.
func withoutFrozen(bales, samples int) func(yield func(state) bool) {
	return func(yield func(state) bool) {
		for rows, columns := range shapes() {
			if rows*columns > bales {
				continue
			}
			for x := range statesOf(rows, columns, "cs") {
				if !yield(x) {
					return
				}
			}
		}
		for x := range some(0, samples) {
			if !yield(x.but('c', x.with('f')...)) {
				return
			}
		}
	}
}

// modelBlocks walks from neighbour to neighbour.
func modelBlocks(x state) [][4]int {
	spread := modelSpread(x)
	seen := map[int]bool{}
	var all [][4]int
	for _, first := range spread {
		if seen[first] {
			continue
		}
		block := [4]int{9, 9, -1, -1}
		seen[first] = true
		for todo := list(first); len(todo) > 0; {
			n := todo[0]
			todo = todo[1:]
			row, column := n/x.columns, n%x.columns
			block = [4]int{min(block[0], row), min(block[1], column), max(block[2], row), max(block[3], column)}
			for _, b := range x.neighbours()[n] {
				if slices.Contains(spread, b) && !seen[b] {
					seen[b] = true
					todo = append(todo, b)
				}
			}
		}
		all = append(all, block)
	}
	slices.SortFunc(all, func(a, b [4]int) int { return slices.Compare(a[:], b[:]) })
	return all
}

// P9.5: Blocks.
func TestBlocks(t *testing.T) {
	for x := range withoutFrozen(12, 600) {
		blocks, e := beetle.Blocks(x.store())
		wantList(t, "Blocks", x, flat(blocks), e, flat(modelBlocks(x)))
	}
}

// P9.11: a block has all bales within its rows and columns, and a bale outside has at most one neighbour with beetles.
func TestBlocksAreFull(t *testing.T) {
	for x := range withoutFrozen(9, 600) {
		blocks, e := beetle.Blocks(x.store())
		spread, f := beetle.Spread(x.store())
		if e != api.OK || f != api.OK {
			t.Fatalf("Blocks of %v: %d; Spread: %d", x, e, f)
		}
		for n, beside := range x.neighbours() {
			row, column := n/x.columns, n%x.columns
			in, many := 0, 0
			for _, b := range blocks {
				if b[0] <= row && row <= b[2] && b[1] <= column && column <= b[3] {
					in++
				}
			}
			for _, b := range beside {
				if slices.Contains(spread, b) {
					many++
				}
			}
			if in > 1 || (in == 1) != slices.Contains(spread, n) || in == 0 && many > 1 {
				t.Fatalf("%v: bale %d is in %d of the blocks %v, with %d neighbours", x, n, in, blocks, many)
			}
		}
	}
}

// P9.12: why a bale gets beetles on a day, and not before.
func TestDaysBefore(t *testing.T) {
	for x := range some(9, 600) {
		days := daysOf(t, x)
		for n, day := range days {
			before, earlier := 0, 0
			for _, b := range x.neighbours()[n] {
				if 0 <= days[b] && days[b] <= day-1 {
					before++
				}
				if 0 <= days[b] && days[b] <= day-2 {
					earlier++
				}
			}
			if day > 0 && before < 2 || day >= 2 && earlier > 1 {
				t.Fatalf("Days of %v: %v, but bale %d has %d neighbours the day before, and %d another day before", x, days, n, before, earlier)
			}
			if (day == 0) != (x.bales[n] == 's') || day >= 0 && x.bales[n] == 'f' {
				t.Fatalf("Days of %v: %v", x, days)
			}
		}
	}
}
