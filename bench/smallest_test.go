package bench_test

import (
	"math/rand"
	"slices"
	"testing"

	"vitola/api"
	"vitola/bench"
)

// tried has the orders of all counts from 1 to 1000 for each number of rollers, where they were asked for.
var tried [bench.MaxRollers + 1][][]int

// modelTried returns the orders of all counts from 1 to 1000.
func modelTried(n int) [][]int {
	for count := len(tried[n]) + 1; count <= 1000; count++ {
		tried[n] = append(tried[n], modelRun(n, count).order)
	}
	return tried[n]
}

// set returns some rollers as one number.
func set(some []int) int {
	bits := 0
	for _, roller := range some {
		bits |= 1 << roller
	}
	return bits
}

// modelFirst returns, for each set of rollers who go before all others, the smallest count.
func modelFirst(n int) map[int]int {
	smallest := map[int]int{}
	for before, order := range slices.Backward(modelTried(n)) {
		for many := range n + 1 {
			smallest[set(order[:many])] = before + 1
		}
	}
	return smallest
}

// some returns the rollers of a set.
func some(n, bits int) []int {
	var found []int
	for roller := range n {
		if bits>>roller&1 == 1 {
			found = append(found, roller)
		}
	}
	return found
}

// P6.6: the smallest count with which each roller stays last.
func TestSmallest(t *testing.T) {
	for n := 1; n <= bench.MaxRollers; n++ {
		for roller := range n {
			want, f := 0, api.ErrLost
			for before, order := range slices.Backward(modelTried(n)) {
				if order[n-1] == roller {
					want, f = before+1, api.OK
				}
			}
			count, e := bench.Smallest(n, roller)
			wantNumber(t, "Smallest", list(n, roller), count, e, want, f)
		}
	}
}

// checkFirst fails if First returns something else than the model.
func checkFirst(t *testing.T, n, bits int, smallest map[int]int) api.Errno {
	t.Helper()
	want, f := smallest[bits], api.OK
	if want == 0 {
		f = api.ErrLost
	}
	home := some(n, bits)
	count, e := bench.First(n, home)
	wantNumber(t, "First", []any{n, home}, count, e, want, f)
	return e
}

// P6.7: the smallest count with which some go first, for all sets of few rollers.
func TestFirst(t *testing.T) {
	lost := 0
	for n := 1; n <= 9; n++ {
		smallest := modelFirst(n)
		for bits := range 1 << n {
			if checkFirst(t, n, bits, smallest) == api.ErrLost {
				lost++
			}
		}
	}
	if lost == 0 {
		t.Error("no set is lost")
	}
}

// P6.7: those who go first with some count, also with one that is not tried.
func TestFirstOfCounts(t *testing.T) {
	var tries [2]int // with a count that is tried, and with none
	for n := 1; n <= bench.MaxRollers; n++ {
		smallest := modelFirst(n)
		for _, from := range list(1, 300, 990, 5000) {
			for count := from; count < from+21; count += 4 {
				order := modelRun(n, count).order
				for many := range n + 1 {
					if checkFirst(t, n, set(order[:many]), smallest) == api.OK {
						tries[0]++
					} else {
						tries[1]++
					}
				}
			}
		}
	}
	if tries[0] == 0 || tries[1] == 0 {
		t.Errorf("tried: %d, lost: %d", tries[0], tries[1])
	}
}

// P6.7: the last count that is tried, and the first one that is not.
func TestLastTried(t *testing.T) {
	var seen [2]bool
	for n := 1; n <= bench.MaxRollers; n++ {
		smallest := modelFirst(n)
		for i, count := range list(1000, 1001) {
			order := modelRun(n, count).order
			for many := range n {
				bits := set(order[:many])
				if i == 0 && smallest[bits] != 1000 || i == 1 && smallest[bits] != 0 {
					continue
				}
				seen[i] = true
				checkFirst(t, n, bits, smallest)
			}
		}
	}
	if !seen[0] || !seen[1] {
		t.Errorf("seen 1000: %v, 1001: %v", seen[0], seen[1])
	}
}

// P6.7: sets at random.
func TestRandomFirst(t *testing.T) {
	random := rand.New(rand.NewSource(7))
	for n := 10; n <= bench.MaxRollers; n++ {
		smallest := modelFirst(n)
		for range 30 {
			checkFirst(t, n, random.Intn(1<<n), smallest)
		}
	}
}

// P6.7: those who are left, if nobody but the last one is, agree with Smallest.
func TestFirstAndSmallest(t *testing.T) {
	for n := 1; n <= bench.MaxRollers; n++ {
		for roller := range n {
			want, f := bench.Smallest(n, roller)
			count, e := bench.First(n, some(n, 1<<n-1-1<<roller))
			wantNumber(t, "First but", list(n, roller), count, e, want, f)
		}
	}
}
