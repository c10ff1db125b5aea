package beetle

import "vitola/api"

// enough is how many neighbours with beetles give some to a bale.
const enough = 2

// open returns the bales that are not frozen.
func (f field) open() marks {
	return f.floor.all().without(f.frozen)
}

// spread returns the bales that have beetles on some day.
func (f field) spread() marks {
	return f.floor.reached(f.sick, f.open(), enough)
}

// days returns for each bale the first day on which it has beetles, or -1.
func (f field) days() [maxBales]int {
	var days [maxBales]int
	for bale := range days {
		days[bale] = -1
	}
	before, now, open := marks{}, f.sick, f.open()
	for day := 0; now != before; day++ {
		for _, bale := range now.without(before).list() {
			days[bale] = day
		}
		before, now = now, f.floor.grown(now, open, enough)
	}
	return days
}

// block returns the rows and columns of some bales: the smallest ones and the greatest ones.
func (f floor) block(some marks) [4]int {
	block := [4]int{f.rows, f.columns, 0, 0}
	for _, bale := range some.list() {
		row, column := bale/f.columns, bale%f.columns
		block[0], block[1] = min(block[0], row), min(block[1], column)
		block[2], block[3] = max(block[2], row), max(block[3], column)
	}
	return block
}

// blocks returns the blocks of the bales with beetles, none being frozen.
func (f field) blocks() [][4]int {
	var all [][4]int
	left := f.spread()
	// All bales of a block are in it, so its first bale has its smallest row and column, and blocks are found in ascending order.
	for bale := range f.floor.size() {
		if !left[bale] {
			continue
		}
		var first marks
		first[bale] = true
		together := f.floor.reached(first, left, 1)
		all = append(all, f.floor.block(together))
		left = left.without(together)
	}
	return all
}

// Spread returns all bales that get beetles.
func Spread(s Store) ([]int, api.Errno) {
	f, e := checked(s)
	if e != api.OK {
		return nil, e
	}
	return f.spread().list(), api.OK
}

// Days returns the first day on which each bale has beetles.
func Days(s Store) ([]int, api.Errno) {
	f, e := checked(s)
	if e != api.OK {
		return nil, e
	}
	days := f.days()
	return days[:f.floor.size()], api.OK
}

// Outline returns the outlines at the beginning and at the end.
func Outline(s Store) (first, last int, e api.Errno) {
	f, e := checked(s)
	if e != api.OK {
		return 0, 0, e
	}
	return f.floor.outline(f.sick), f.floor.outline(f.spread()), api.OK
}

// Blocks returns the blocks that beetles reach.
func Blocks(s Store) ([][4]int, api.Errno) {
	f, e := checked(s)
	if e != api.OK {
		return nil, e
	}
	if len(s.Frozen) > 0 {
		return nil, api.ErrClash
	}
	return f.blocks(), api.OK
}
