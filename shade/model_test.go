package shade_test

import (
	"iter"
	"math"
	"math/rand"
	"slices"
	"sync"
	"testing"

	"vitola/api"
	"vitola/shade"
)

// The tests compare the package with a model that follows the words of the chapter and shares nothing with the package.

func list(numbers ...int) []int { return numbers }

// extremes are numbers that are never right, among them some that look right if they are cut to 32 bits.
func extremes() []int {
	return list(math.MinInt, math.MinInt+1, -1<<32, -1<<31, -61, -2, -1, 61, 62, 1<<31-1, 1<<32, 1<<32+3, 1<<62, math.MaxInt)
}

func boths() []bool { return []bool{false, true} }

// orders gives all orders of the numbers from 0 to n - 1, in ascending order and each in the same memory.
func orders(n int) iter.Seq[[]int] {
	return func(yield func([]int) bool) {
		order := make([]int, 0, n)
		var further func() bool
		further = func() bool {
			if len(order) == n {
				return yield(order)
			}
			for number := range n {
				if slices.Contains(order, number) {
					continue
				}
				order = append(order, number)
				if !further() {
					return false
				}
				order = order[:len(order)-1]
			}
			return true
		}
		further()
	}
}

// lists gives all lists of so many numbers of some.
func lists(length int, numbers ...int) iter.Seq[[]int] {
	return func(yield func([]int) bool) {
		places := make([]int, length)
		for {
			l := make([]int, length)
			for i, place := range places {
				l[i] = numbers[place]
			}
			if !yield(l) {
				return
			}
			i := length - 1
			for i >= 0 && places[i] == len(numbers)-1 {
				places[i] = 0
				i--
			}
			if i < 0 {
				return
			}
			places[i]++
		}
	}
}

// modelSteps goes along the box, and in a round box from the last cigar back to the first one.
func modelSteps(shades []int, round bool) (greatest, sum int) {
	n := len(shades)
	for i := range n {
		j := i + 1
		if j == n && (!round || n == 1) {
			continue
		}
		d := shades[i] - shades[j%n]
		if d < 0 {
			d = -d
		}
		sum += d
		if d > greatest {
			greatest = d
		}
	}
	return greatest, sum
}

// A box has what is true of shades in one box.
type box struct {
	shades      []int
	round       bool
	least, most int
	box, wide   []int
}

// ordersOf has all orders of each number of cigars.
var ordersOf = sync.OnceValue(func() [][][]int {
	all := make([][][]int, shade.MaxCigars+1)
	for n := range all {
		for order := range orders(n) {
			all[n] = append(all[n], slices.Clone(order))
		}
	}
	return all
})

// arranged gives all arrangements of shades, in no order, equal ones more than once, and each in the same memory.
func arranged(shades []int) iter.Seq[[]int] {
	return func(yield func([]int) bool) {
		l := make([]int, len(shades))
		for _, order := range ordersOf()[len(shades)] {
			for i, cigar := range order {
				l[i] = shades[cigar]
			}
			if !yield(l) {
				return
			}
		}
	}
}

// modelBox looks at all arrangements.
func modelBox(shades []int, round bool) box {
	b := box{shades: shades, round: round, least: math.MaxInt, most: -1}
	for l := range arranged(shades) {
		step, sum := modelSteps(l, round)
		if step < b.least || step == b.least && slices.Compare(l, b.box) < 0 {
			b.least, b.box = step, slices.Clone(l)
		}
		if sum > b.most || sum == b.most && slices.Compare(l, b.wide) < 0 {
			b.most, b.wide = sum, slices.Clone(l)
		}
	}
	return b
}

// modelIndices is how many indices there are that may prove a step.
func modelIndices(cigars int, round bool) int {
	switch {
	case cigars == 1:
		return 0
	case cigars == 2 || !round:
		return cigars - 1
	default:
		return cigars - 2
	}
}

// modelProves looks whether the cigars up to the index, and those from the index plus the reach, are so far apart.
func modelProves(shades []int, round bool, index, step int) api.Errno {
	n := len(shades)
	if index < 0 || index >= modelIndices(n, round) {
		return api.ErrRange
	}
	low, high := -1, -1
	for shade := range 61 {
		many := 0
		for _, s := range shades {
			if s <= shade {
				many++
			}
		}
		if many > index && low < 0 {
			low = shade
		}
		if many > index+n-modelIndices(n, round) && high < 0 {
			high = shade
		}
	}
	if step > high-low {
		return api.ErrProof
	}
	return api.OK
}

// shadeLists gives all lists of up to four cigars of five shades, those of more cigars with shades of few kinds, and some at random.
func shadeLists() iter.Seq[[]int] {
	return func(yield func([]int) bool) {
		for n := 1; n <= 4; n++ {
			for l := range lists(n, 0, 1, 3, 40, 60) {
				if !yield(l) {
					return
				}
			}
		}
		random := rand.New(rand.NewSource(7))
		for n := 5; n <= shade.MaxCigars; n++ {
			for l := range lists(n, 0, 1, 5, 7) {
				if !slices.IsSorted(l) {
					continue
				}
				random.Shuffle(n, func(i, j int) { l[i], l[j] = l[j], l[i] })
				if !yield(l) {
					return
				}
			}
			for _, kinds := range list(61, 61, 20, 12) {
				for range 40 {
					l := make([]int, n)
					for i := range l {
						l[i] = random.Intn(kinds)
					}
					if !yield(l) {
						return
					}
				}
			}
		}
	}
}

// boxes has all lists of shades, each in both boxes.
var boxes = sync.OnceValue(func() []box {
	var all []box
	for l := range shadeLists() {
		for _, round := range boths() {
			all = append(all, modelBox(l, round))
		}
	}
	return all
})

// modelTurns looks at each place of an order.
func modelTurns(order []int) bool {
	for i := range order {
		if i%2 == 1 && order[i] < order[i-1] || i%2 == 0 && i > 0 && order[i] > order[i-1] {
			return false
		}
	}
	return true
}

// modelTurning looks at the numbers of an order one by one.
func modelTurning(order []int) (bool, api.Errno) {
	n := len(order)
	if n == 0 {
		return false, api.ErrEmpty
	}
	if n > 9 {
		return false, api.ErrMany
	}
	seen := map[int]bool{}
	for _, number := range order {
		if number < 0 || number > n-1 {
			return false, api.ErrNone
		}
		if seen[number] {
			return false, api.ErrTwice
		}
		seen[number] = true
	}
	return modelTurns(order), api.OK
}

// turnings has, for each number of cigars, all turning orders in ascending order.
var turnings = sync.OnceValue(func() [][][]int {
	all := make([][][]int, shade.MaxOrder+1)
	for n := range all {
		for order := range orders(n) {
			if modelTurns(order) {
				all[n] = append(all[n], slices.Clone(order))
			}
		}
	}
	return all
})

// An input has all that calls may take.
type input struct {
	list         []int // shades or an order
	round        bool
	index, step  int
	cigars       int
	first, place int // a number that is first, and the number of an order
}

// A call takes what it needs of an input; it has numbers as its result, none if there are only zero values.
type call struct {
	name string
	run  func(x input) ([]int, api.Errno)
}

// noted returns a number as a result.
func noted(number int, e api.Errno) ([]int, api.Errno) {
	if number == 0 {
		return nil, e
	}
	return list(number), e
}

// callsOfShades are the calls that have shades.
func callsOfShades() []call {
	return []call{
		{"Check", func(x input) ([]int, api.Errno) { return nil, shade.Check(x.list) }},
		{"Step", func(x input) ([]int, api.Errno) { return noted(shade.Step(x.list, x.round)) }},
		{"Least", func(x input) ([]int, api.Errno) { return noted(shade.Least(x.list, x.round)) }},
		{"Box", func(x input) ([]int, api.Errno) { return shade.Box(x.list, x.round) }},
		{"Why", func(x input) ([]int, api.Errno) { return noted(shade.Why(x.list, x.round)) }},
		{"Proves", func(x input) ([]int, api.Errno) { return nil, shade.Proves(x.list, x.round, x.index, x.step) }},
		{"Sum", func(x input) ([]int, api.Errno) { return noted(shade.Sum(x.list, x.round)) }},
		{"Most", func(x input) ([]int, api.Errno) { return noted(shade.Most(x.list, x.round)) }},
		{"Wide", func(x input) ([]int, api.Errno) { return shade.Wide(x.list, x.round) }},
	}
}

// callsOfOrders are the calls that have an order.
func callsOfOrders() []call {
	return []call{
		{"Turning", func(x input) ([]int, api.Errno) {
			turning, e := shade.Turning(x.list)
			if turning {
				return list(1), e
			}
			return nil, e
		}},
		{"Number", func(x input) ([]int, api.Errno) { return noted(shade.Number(x.list)) }},
	}
}

// callsOfCigars are the calls that have a number of cigars.
func callsOfCigars() []call {
	return []call{
		{"Count", func(x input) ([]int, api.Errno) { return noted(shade.Count(x.cigars)) }},
		{"Begin", func(x input) ([]int, api.Errno) { return noted(shade.Begin(x.cigars, x.first)) }},
		{"At", func(x input) ([]int, api.Errno) { return shade.At(x.cigars, x.place) }},
	}
}

// calls are all calls.
func calls() []call {
	return slices.Concat(callsOfShades(), callsOfOrders(), callsOfCigars())
}

// wantError fails if a call does not just return an error.
func wantError(t *testing.T, c call, x input, want api.Errno) {
	t.Helper()
	if r, e := c.run(x); len(r) != 0 || e != want {
		t.Fatalf("%s of %v: %v %d, want error %d only", c.name, x, r, e, want)
	}
}

// wantList fails if a call that has a list as its result has another one.
func wantList(t *testing.T, what string, of any, r []int, e api.Errno, want []int) {
	t.Helper()
	if !slices.Equal(r, want) || e != api.OK {
		t.Fatalf("%s of %v: %v %d, want %v", what, of, r, e, want)
	}
}

// wantNumber fails if a call that has a number as its result has another one.
func wantNumber(t *testing.T, what string, of any, n int, e api.Errno, want int, f api.Errno) {
	t.Helper()
	if n != want || e != f {
		t.Fatalf("%s of %v: %d %d, want %d %d", what, of, n, e, want, f)
	}
}
