package beetle_test

import (
	"slices"
	"strings"
	"testing"

	"vitola/api"
	"vitola/beetle"
)

// clean returns a store without beetles, and all its bales.
func clean(rows, columns int) (state, []int) {
	all := make([]int, rows*columns)
	for n := range all {
		all[n] = n
	}
	return state{rows, columns, strings.Repeat("c", rows*columns)}, all
}

// modelPlant tries all bales, the fewest first.
func modelPlant(rows, columns int) []int {
	x, all := clean(rows, columns)
	for many := range rows*columns + 1 {
		for sick := range listsOf(all, many) {
			if !slices.Contains(modelDays(x.but('s', sick...)), -1) {
				return sick
			}
		}
	}
	return nil
}

// P9.6, P9.9: Least and Plant of all stores.
func TestPlant(t *testing.T) {
	for rows, columns := range shapes() {
		want := modelPlant(rows, columns)
		l, e := beetle.Plant(rows, columns)
		wantList(t, "Plant", list(rows, columns), l, e, want)
		least, e := beetle.Least(rows, columns)
		wantList(t, "Least", list(rows, columns), list(least), e, list(len(want)))
		if least != (rows+columns)/2+(rows+columns)%2 {
			t.Errorf("Least of %d, %d: %d", rows, columns, least)
		}
	}
}

// P9.9: fewer bales do not reach all others, however they lie.
func TestFewerThanLeast(t *testing.T) {
	for rows, columns := range shapes() {
		x, all := clean(rows, columns)
		least, _ := beetle.Least(rows, columns)
		for sick := range listsOf(all, least-1) {
			spread, e := beetle.Spread(x.but('s', sick...).store())
			if len(spread) == len(all) || e != api.OK {
				t.Fatalf("Spread of %d, %d, %v: %v %d", rows, columns, sick, spread, e)
			}
		}
	}
}

// P9.6: beetles reach all bales from those of Plant, and from no others of so many that come first.
func TestPlanted(t *testing.T) {
	for rows, columns := range shapes() {
		x, all := clean(rows, columns)
		plant, e := beetle.Plant(rows, columns)
		if e != api.OK {
			t.Fatalf("Plant of %d, %d: %d", rows, columns, e)
		}
		for sick := range listsOf(all, len(plant)) {
			spread, _ := beetle.Spread(x.but('s', sick...).store())
			if full := len(spread) == len(all); full != slices.Equal(sick, plant) {
				t.Fatalf("Plant of %d, %d: %v, but from %v: %v", rows, columns, plant, sick, spread)
			} else if full {
				break
			}
		}
	}
}

// P9.8: Idle.
func TestIdle(t *testing.T) {
	for x := range some(9, 400) {
		var want []int
		for _, n := range x.with('s') {
			if slices.Equal(modelSpread(x.but('c', n)), modelSpread(x)) {
				want = append(want, n)
			}
		}
		idle, e := beetle.Idle(x.store())
		wantList(t, "Idle", x, idle, e, want)
	}
}
