package beetle_test

import (
	"iter"
	"math"
	"math/rand"
	"slices"
	"sync"
	"testing"

	"vitola/api"
	"vitola/beetle"
)

// The tests compare the package with a model that follows the words of the chapter and shares nothing with the package.

func list(numbers ...int) []int { return numbers }

// extremes are numbers that are never right, among them some that look right if they are cut to 32 bits.
func extremes() []int {
	return list(math.MinInt, math.MinInt+1, -1<<32, -1<<31, -26, -2, -1, 26, 27, 1<<31-1, 1<<32, 1<<32+3, 1<<62, math.MaxInt)
}

// shapes gives all numbers of rows and of columns.
func shapes() iter.Seq2[int, int] {
	return func(yield func(int, int) bool) {
		for rows := 1; rows <= 5; rows++ {
			for columns := 1; columns <= 5; columns++ {
				if !yield(rows, columns) {
					return
				}
			}
		}
	}
}

// A state is a store: a letter for each bale, which is clean (c), sick (s) or frozen (f).
type state struct {
	rows, columns int
	bales         string
}

// with returns the numbers of the bales with a letter.
func (x state) with(letter byte) []int {
	var all []int
	for n := range len(x.bales) {
		if x.bales[n] == letter {
			all = append(all, n)
		}
	}
	return all
}

func (x state) store() beetle.Store {
	return beetle.Store{Rows: x.rows, Columns: x.columns, Sick: x.with('s'), Frozen: x.with('f')}
}

// but returns the state with another letter for some bales.
func (x state) but(letter byte, numbers ...int) state {
	bales := []byte(x.bales)
	for _, n := range numbers {
		bales[n] = letter
	}
	x.bales = string(bales)
	return x
}

// modelBeside returns whether two bales are neighbours.
func modelBeside(columns, a, b int) bool {
	down, across := a/columns-b/columns, a%columns-b%columns
	return down*down+across*across == 1
}

// neighboursOf has, by rows and columns, the neighbours of each bale.
var neighboursOf = sync.OnceValue(func() (all [6][6][][]int) {
	for rows, columns := range shapes() {
		for a := range rows * columns {
			var beside []int
			for b := range rows * columns {
				if modelBeside(columns, a, b) {
					beside = append(beside, b)
				}
			}
			all[rows][columns] = append(all[rows][columns], beside)
		}
	}
	return all
})

func (x state) neighbours() [][]int { return neighboursOf()[x.rows][x.columns] }

// modelDays goes from day to day.
func modelDays(x state) []int {
	beside := x.neighbours()
	days := slices.Repeat(list(-1), len(x.bales))
	for _, n := range x.with('s') {
		days[n] = 0
	}
	for day := 1; day <= len(x.bales); day++ {
		for n := range days {
			if days[n] >= 0 || x.bales[n] == 'f' {
				continue
			}
			many := 0
			for _, b := range beside[n] {
				if days[b] >= 0 && days[b] < day {
					many++
				}
			}
			if many >= 2 {
				days[n] = day
			}
		}
		if !slices.Contains(days, day) {
			break
		}
	}
	return days
}

// modelSpread returns the bales that have a day.
func modelSpread(x state) []int {
	var spread []int
	for n, day := range modelDays(x) {
		if day >= 0 {
			spread = append(spread, n)
		}
	}
	return spread
}

// modelRest returns the bales that have no day.
func modelRest(x state) []int {
	var rest []int
	for n, day := range modelDays(x) {
		if day < 0 {
			rest = append(rest, n)
		}
	}
	return rest
}

// modelSides counts the sides of bales one by one.
func modelSides(x state, bales []int) int {
	many := 0
	for _, n := range bales {
		many += 4
		for _, b := range x.neighbours()[n] {
			if slices.Contains(bales, b) {
				many--
			}
		}
	}
	return many
}

// modelSafe follows the definition of bales that are safe by themselves.
func modelSafe(x state, bales []int) bool {
	for _, n := range bales {
		many := 0
		for _, b := range x.neighbours()[n] {
			if !slices.Contains(bales, b) && x.bales[b] != 'f' {
				many++
			}
		}
		if x.bales[n] == 's' || x.bales[n] != 'f' && many > 1 {
			return false
		}
	}
	return true
}

// listsOf gives all lists of so many of some bales, the first one first.
func listsOf(bales []int, many int) iter.Seq[[]int] {
	return func(yield func([]int) bool) {
		var further func(chosen, left []int) bool
		further = func(chosen, left []int) bool {
			if len(chosen) == many {
				return yield(slices.Clone(chosen))
			}
			for i, n := range left {
				if !further(append(chosen, n), left[i+1:]) {
					return false
				}
			}
			return true
		}
		further(make([]int, 0, many), bales)
	}
}

// modelKeep tries all bales that may be frozen, the fewest first.
func modelKeep(x state, bale int) ([]int, api.Errno) {
	sick := 0
	for _, b := range x.neighbours()[bale] {
		if x.bales[b] == 's' {
			sick++
		}
	}
	if x.bales[bale] == 's' || x.bales[bale] != 'f' && sick >= 2 {
		return nil, api.ErrLost
	}
	free := slices.DeleteFunc(x.with('c'), func(n int) bool { return n == bale })
	for many := range len(free) + 1 {
		for more := range listsOf(free, many) {
			if modelDays(x.but('f', more...))[bale] < 0 {
				return more, api.OK
			}
		}
	}
	return nil, -1
}

// statesOf gives all states of a store whose bales have some of these letters.
func statesOf(rows, columns int, letters string) iter.Seq[state] {
	return func(yield func(state) bool) {
		bales := make([]byte, rows*columns)
		var further func(at int) bool
		further = func(at int) bool {
			if at == len(bales) {
				return yield(state{rows, columns, string(bales)})
			}
			for i := range len(letters) {
				bales[at] = letters[i]
				if !further(at + 1) {
					return false
				}
			}
			return true
		}
		further(0)
	}
}

// some gives all states of stores of up to so many bales, and samples of all others, always the same ones.
func some(bales, samples int) iter.Seq[state] {
	mixes := []string{"cccs", "ccs", "ccccs", "cccccssf", "cs", "ccccccccsssf", "csf"}
	return func(yield func(state) bool) {
		random := rand.New(rand.NewSource(9))
		for rows, columns := range shapes() {
			if rows*columns <= bales {
				for x := range statesOf(rows, columns, "csf") {
					if !yield(x) {
						return
					}
				}
				continue
			}
			for i := range samples {
				mix := mixes[i%len(mixes)]
				letters := make([]byte, rows*columns)
				for n := range letters {
					letters[n] = mix[random.Intn(len(mix))]
				}
				if !yield(state{rows, columns, string(letters)}) {
					return
				}
			}
		}
	}
}

// input has the arguments of all calls, of which each one takes some.
type input struct {
	s             beetle.Store
	bales         []int
	bale          int
	rows, columns int
}

// A call returns its results as one list, empty if all of them are zero values and there is an error.
type call struct {
	name string
	run  func(x input) ([]int, api.Errno)
}

func flat(blocks [][4]int) []int {
	var all []int
	for _, block := range blocks {
		all = append(all, block[:]...)
	}
	return all
}

// callsOfStores are the calls that return a store's error at first.
func callsOfStores() []call {
	return []call{
		{"Check", func(x input) ([]int, api.Errno) { return nil, beetle.Check(x.s) }},
		{"Spread", func(x input) ([]int, api.Errno) { return beetle.Spread(x.s) }},
		{"Days", func(x input) ([]int, api.Errno) { return beetle.Days(x.s) }},
		{"Outline", func(x input) ([]int, api.Errno) {
			first, last, e := beetle.Outline(x.s)
			if e != api.OK && first == 0 && last == 0 {
				return nil, e
			}
			return list(first, last), e
		}},
		{"Proves", func(x input) ([]int, api.Errno) { return nil, beetle.Proves(x.s, x.bales) }},
		{"Blocks", func(x input) ([]int, api.Errno) {
			blocks, e := beetle.Blocks(x.s)
			return flat(blocks), e
		}},
		{"Keep", func(x input) ([]int, api.Errno) { return beetle.Keep(x.s, x.bale) }},
		{"Idle", func(x input) ([]int, api.Errno) { return beetle.Idle(x.s) }},
	}
}

// callsOfSides are the calls of rows and columns alone.
func callsOfSides() []call {
	return []call{
		{"Least", func(x input) ([]int, api.Errno) {
			n, e := beetle.Least(x.rows, x.columns)
			if e != api.OK && n == 0 {
				return nil, e
			}
			return list(n), e
		}},
		{"Plant", func(x input) ([]int, api.Errno) { return beetle.Plant(x.rows, x.columns) }},
	}
}

func calls() []call { return slices.Concat(callsOfStores(), callsOfSides()) }

func wantError(t *testing.T, c call, x input, want api.Errno) {
	t.Helper()
	if l, e := c.run(x); e != want || len(l) != 0 {
		t.Fatalf("%s of %v: %v %d, want error %d", c.name, x, l, e, want)
	}
}

func wantList(t *testing.T, what string, of any, l []int, e api.Errno, want []int) {
	t.Helper()
	if !slices.Equal(l, want) || e != api.OK {
		t.Fatalf("%s of %v: %v %d, want %v", what, of, l, e, want)
	}
}
