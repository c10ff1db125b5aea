package store_test

import (
	"iter"
	"math"
	"math/rand"
	"slices"
	"testing"

	"vitola/api"
	"vitola/store"
)

// The tests compare the package with a model that follows the words of the chapter and shares nothing with the package.

func list(numbers ...int) []int { return numbers }

// extremes are numbers that are never right, among them some that look right if they are cut to 32 bits.
func extremes() []int {
	return list(math.MinInt, math.MinInt+1, -1<<32, -1<<31, -9, -2, -1, 1<<31-1, 1<<32, 1<<32+1, 1<<62, math.MaxInt-1, math.MaxInt)
}

// everyDivision has, by the number of boxes, all divisions in ascending order.
var everyDivision = modelDivisions()

func modelDivisions() [10][][]int {
	all := [10][][]int{{nil}}
	for boxes := 1; boxes <= 9; boxes++ {
		for _, division := range all[boxes-1] {
			for room := range modelRooms(division) + 1 {
				all[boxes] = append(all[boxes], append(slices.Clone(division), room))
			}
		}
	}
	return all
}

// modelRooms counts the rooms that have a box.
func modelRooms(division []int) int {
	seen := map[int]bool{}
	for _, room := range division {
		seen[room] = true
	}
	return len(seen)
}

// modelOf numbers the rooms of labels one after the other.
func modelOf(labels []int) []int {
	var division []int
	many := 0
	for box, label := range labels {
		first := slices.Index(labels, label)
		if first == box {
			division = append(division, many)
			many++
		} else {
			division = append(division, division[first])
		}
	}
	return division
}

// A relation tells which boxes are together.
type relation [9][9]bool

func togetherIn(division []int) relation {
	var r relation
	for i, a := range division {
		for j, b := range division {
			r[i][j] = a == b
		}
	}
	return r
}

// divisionOf returns the division of so many boxes in which just those are together that a relation tells.
func divisionOf(r relation, boxes int) []int {
	var division []int
	many := 0
	for i := range boxes {
		room := many
		for j := range i {
			if r[i][j] {
				room = division[j]
			}
		}
		if room == many {
			many++
		}
		division = append(division, room)
	}
	return division
}

// modelFiner looks at all pairs of boxes.
func modelFiner(a, b []int) bool {
	first, second := togetherIn(a), togetherIn(b)
	for i := range first {
		for j := range first {
			if first[i][j] && !second[i][j] {
				return false
			}
		}
	}
	return true
}

// modelMeet has those boxes together that are so in both.
func modelMeet(a, b []int) []int {
	first, second := togetherIn(a), togetherIn(b)
	for i := range first {
		for j := range first {
			first[i][j] = first[i][j] && second[i][j]
		}
	}
	return divisionOf(first, len(a))
}

// modelJoin has those boxes together that can be reached from one another by steps between boxes that are so in one of both.
func modelJoin(a, b []int) []int {
	reached, second := togetherIn(a), togetherIn(b)
	for i := range reached {
		for j := range reached {
			reached[i][j] = reached[i][j] || second[i][j]
		}
	}
	for over := range reached {
		for i := range reached {
			for j := range reached {
				reached[i][j] = reached[i][j] || reached[i][over] && reached[over][j]
			}
		}
	}
	return divisionOf(reached, len(a))
}

// modelArcs tells between which boxes there is an arc.
func modelArcs(division []int) relation {
	var arcs relation
	for i, room := range division {
		for j := i + 1; j < len(division); j++ {
			if division[j] == room {
				arcs[i][j] = true
				break
			}
		}
	}
	return arcs
}

// modelMet counts crossings and nestings: all four boxes that two arcs may have.
func modelMet(division []int) (crossings, nestings int) {
	arcs := modelArcs(division)
	for p := range division {
		for q := range p {
			for r := range q {
				for s := range r {
					if arcs[s][q] && arcs[r][p] {
						crossings++
					}
					if arcs[s][p] && arcs[r][q] {
						nestings++
					}
				}
			}
		}
	}
	return crossings, nestings
}

func modelFlat(division []int) bool {
	crossings, _ := modelMet(division)
	return crossings == 0
}

// modelGaps looks at the boxes between any two gaps.
func modelGaps(division []int) []int {
	var r relation
	for j := range division {
		for i := range j {
			r[i][j] = allOrNone(division, i+1, j)
			r[j][i] = r[i][j]
		}
	}
	return divisionOf(r, len(division))
}

// allOrNone returns whether each room has all its boxes among those from one to another one, or none.
func allOrNone(division []int, from, to int) bool {
	among := division[from : to+1]
	for _, room := range among {
		if slices.Contains(division[:from], room) || slices.Contains(division[to+1:], room) {
			return false
		}
	}
	return true
}

// flatOnes gives all flat divisions of so many boxes.
func flatOnes(boxes int) [][]int {
	var flat [][]int
	for _, division := range everyDivision[boxes] {
		if modelFlat(division) {
			flat = append(flat, division)
		}
	}
	return flat
}

// divisions gives all divisions of up to so many boxes.
func divisions(boxes int) iter.Seq[[]int] {
	return func(yield func([]int) bool) {
		for n := 1; n <= boxes; n++ {
			for _, division := range everyDivision[n] {
				if !yield(division) {
					return
				}
			}
		}
	}
}

// pairs gives all pairs of divisions of up to so many boxes, and for more boxes as many samples of each number, always the same ones.
func pairs(boxes, many int) iter.Seq2[[]int, []int] {
	return func(yield func(a, b []int) bool) {
		for n := 1; n <= boxes; n++ {
			for _, a := range everyDivision[n] {
				for _, b := range everyDivision[n] {
					if !yield(a, b) {
						return
					}
				}
			}
		}
		random := rand.New(rand.NewSource(11))
		for n := boxes + 1; n <= 9; n++ {
			for range many {
				if !yield(sample(random, n), sample(random, n)) {
					return
				}
			}
		}
	}
}

// sample returns a division of so many boxes, with any number of rooms.
func sample(random *rand.Rand, boxes int) []int {
	labels := make([]int, boxes)
	rooms := 1 + random.Intn(2*boxes)
	for box := range labels {
		labels[box] = random.Intn(rooms)
	}
	return modelOf(labels)
}

// input has the arguments of all calls, of which each one takes some.
type input struct {
	a, b   []int
	boxes  int
	number int
}

// A call returns its results as one list, empty if all of them are zero values and there is an error.
type call struct {
	name string
	run  func(x input) ([]int, api.Errno)
}

// one returns a number as a list, or nothing if it is 0 and there is an error.
func one(number int, e api.Errno) ([]int, api.Errno) {
	if e != api.OK && number == 0 {
		return nil, e
	}
	return list(number), e
}

// callsOfOne are the calls that return the error of the first division at first.
func callsOfOne() []call {
	return []call{
		{"Check", func(x input) ([]int, api.Errno) { return nil, store.Check(x.a) }},
		{"Number", func(x input) ([]int, api.Errno) { return one(store.Number(x.a)) }},
		{"Arcs", func(x input) ([]int, api.Errno) {
			crossings, nestings, e := store.Arcs(x.a)
			if e != api.OK && crossings == 0 && nestings == 0 {
				return nil, e
			}
			return list(crossings, nestings), e
		}},
		{"Gaps", func(x input) ([]int, api.Errno) { return store.Gaps(x.a) }},
		{"Back", func(x input) ([]int, api.Errno) { return store.Back(x.a) }},
	}
}

// callsOfTwo are the calls of two divisions.
func callsOfTwo() []call {
	return []call{
		{"Finer", func(x input) ([]int, api.Errno) {
			is, e := store.Finer(x.a, x.b)
			if is {
				return one(1, e)
			}
			return one(0, e)
		}},
		{"Join", func(x input) ([]int, api.Errno) { return store.Join(x.a, x.b) }},
		{"Meet", func(x input) ([]int, api.Errno) { return store.Meet(x.a, x.b) }},
	}
}

// callsOfBoxes are the calls that are told a number of boxes.
func callsOfBoxes() []call {
	return []call{
		{"Count", func(x input) ([]int, api.Errno) { return one(store.Count(x.boxes)) }},
		{"Into", func(x input) ([]int, api.Errno) { return one(store.Into(x.boxes, x.number)) }},
		{"At", func(x input) ([]int, api.Errno) { return store.At(x.boxes, x.number) }},
		{"Flat", func(x input) ([]int, api.Errno) { return one(store.Flat(x.boxes)) }},
	}
}

// callOfLabels is the call of any labels.
func callOfLabels() call {
	return call{"Of", func(x input) ([]int, api.Errno) { return store.Of(x.a) }}
}

func calls() []call {
	return append(slices.Concat(callsOfOne(), callsOfTwo(), callsOfBoxes()), callOfLabels())
}

// named returns the call with a name.
func named(name string) call {
	all := calls()
	return all[slices.IndexFunc(all, func(c call) bool { return c.name == name })]
}

func wantError(t *testing.T, c call, x input, want api.Errno) {
	t.Helper()
	if l, e := c.run(x); e != want || len(l) != 0 {
		t.Fatalf("%s of %v: %v %d, want error %d", c.name, x, l, e, want)
	}
}

// wantResult compares what a call returns with a list.
func wantResult(t *testing.T, name string, x input, want ...int) {
	t.Helper()
	if l, e := named(name).run(x); !slices.Equal(l, want) || e != api.OK {
		t.Fatalf("%s of %v: %v %d, want %v", name, x, l, e, want)
	}
}
