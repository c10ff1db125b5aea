package dock

// set is a set of bays, with a bit for each.
type set uint

func (s set) has(bay int) bool { return s>>bay&1 == 1 }

func (s set) with(bay int) set { return s | 1<<bay }

// away stands where the bay of a cart would stand if it had found one.
const away = -1

// fate is what becomes of a cart.
type fate interface {
	// leaves returns the taken bays that the next cart finds.
	leaves(taken set) set
}

// parks is the fate of a cart that finds a bay.
type parks struct{ bay int }

func (p parks) leaves(taken set) set { return taken.with(p.bay) }

// goesAway is the fate of a cart that finds none.
type goesAway struct{}

func (goesAway) leaves(taken set) set { return taken }

// drive returns what becomes of a cart when some bays are taken.
func drive(bays int, taken set, wish int) fate {
	for bay := wish; bay < bays; bay++ {
		if !taken.has(bay) {
			return parks{bay}
		}
	}
	return goesAway{}
}

// bayOf returns the bay that a cart gets, or away.
func bayOf(f fate) int {
	switch f := f.(type) {
	case parks:
		return f.bay
	default:
		return away
	}
}

// park returns the bay of each cart, or away.
func park(bays int, wishes []int) []int {
	parked := make([]int, len(wishes))
	var taken set
	for cart, wish := range wishes {
		f := drive(bays, taken, wish)
		parked[cart] = bayOf(f)
		taken = f.leaves(taken)
	}
	return parked
}
