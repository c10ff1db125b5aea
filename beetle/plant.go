package beetle

import "vitola/api"

// least returns the smallest number of bales from which beetles reach all others.
func (f floor) least() int {
	// The outline never grows (P9.9): that of all bales has two sides for each row and each column, and a bale has four.
	// So fewer bales than half of the rows and columns are not enough, and so many, rounded up, always are.
	return (f.rows + f.columns + 1) / 2
}

// idle returns whether the spread is the same without a sick bale.
func (f field) idle(bale int) bool {
	fewer := f
	fewer.sick[bale] = false
	return fewer.spread() == f.spread()
}

// Least returns from how few bales beetles reach a whole store.
func Least(rows, columns int) (int, api.Errno) {
	if e := checkSides(rows, columns); e != api.OK {
		return 0, e
	}
	return floor{rows: rows, columns: columns}.least(), api.OK
}

// Plant returns the first such bales.
func Plant(rows, columns int) ([]int, api.Errno) {
	if e := checkSides(rows, columns); e != api.OK {
		return nil, e
	}
	on := floor{rows: rows, columns: columns}
	all := on.all()
	fits := func(sick marks) bool { return on.reached(sick, all, enough) == all }
	planted, _ := choose(all, marks{}, 0, on.least(), fits)
	return planted.list(), api.OK
}

// Idle returns all bales of Sick that make no difference.
func Idle(s Store) ([]int, api.Errno) {
	f, e := checked(s)
	if e != api.OK {
		return nil, e
	}
	var idle marks
	for _, bale := range s.Sick {
		idle[bale] = f.idle(bale)
	}
	return idle.list(), api.OK
}
