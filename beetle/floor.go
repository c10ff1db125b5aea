package beetle

// The greatest number of bales, and the sides of each one.
const (
	maxBales = MaxSide * MaxSide
	sides    = 4
)

// marks tells of each bale whether it is one of some bales.
type marks [maxBales]bool

// list returns the numbers of the bales.
func (m marks) list() []int {
	var bales []int
	for bale, is := range m {
		if is {
			bales = append(bales, bale)
		}
	}
	return bales
}

// and returns the bales together with others.
func (m marks) and(others marks) marks {
	for bale, is := range others {
		m[bale] = m[bale] || is
	}
	return m
}

// without returns the bales that are none of others.
func (m marks) without(others marks) marks {
	for bale, is := range others {
		m[bale] = m[bale] && !is
	}
	return m
}

// floor is the rows and columns in which bales lie.
type floor struct {
	rows    int
	columns int
}

// size returns the number of bales.
func (f floor) size() int {
	return f.rows * f.columns
}

// has returns whether a number is a bale.
func (f floor) has(number int) bool {
	return 0 <= number && number < f.size()
}

// all returns all bales.
func (f floor) all() marks {
	var every marks
	for bale := range f.size() {
		every[bale] = true
	}
	return every
}

// beside returns how many neighbours of a bale are among some bales.
func (f floor) beside(bale int, some marks) int {
	row, column := bale/f.columns, bale%f.columns
	many := 0
	if row > 0 && some[bale-f.columns] {
		many++
	}
	if row < f.rows-1 && some[bale+f.columns] {
		many++
	}
	if column > 0 && some[bale-1] {
		many++
	}
	if column < f.columns-1 && some[bale+1] {
		many++
	}
	return many
}

// grown returns some bales, and those of others that have at least so many neighbours among them.
func (f floor) grown(some, others marks, neighbours int) marks {
	next := some
	for bale := range f.size() {
		if others[bale] && f.beside(bale, some) >= neighbours {
			next[bale] = true
		}
	}
	return next
}

// reached returns what some bales are when they grow no more.
func (f floor) reached(some, others marks, neighbours int) marks {
	for {
		next := f.grown(some, others, neighbours)
		if next == some {
			return some
		}
		some = next
	}
}

// outline returns the outline of some bales.
func (f floor) outline(some marks) int {
	long := 0
	for _, bale := range some.list() {
		long += sides - f.beside(bale, some)
	}
	return long
}

// choose adds so many free bales, from one on, to those chosen, in the first way that fits, and returns whether there is one.
func choose(free, chosen marks, from, many int, fits func(marks) bool) (marks, bool) {
	if many == 0 {
		return chosen, fits(chosen)
	}
	for bale := from; bale < maxBales; bale++ {
		if !free[bale] {
			continue
		}
		more := chosen
		more[bale] = true
		if found, ok := choose(free, more, bale+1, many-1, fits); ok {
			return found, true
		}
	}
	return marks{}, false
}
