package shade_test

import (
	"slices"
	"testing"

	"vitola/api"
	"vitola/shade"
)

// spoil overwrites a list and all the memory behind it.
func spoil(l []int) {
	l = l[:cap(l)]
	for i := range l {
		l[i] = 77
	}
}

// checkMemory fails if two results of a call share memory, or if what becomes of one changes a later one.
func checkMemory(t *testing.T, c call, x input) {
	t.Helper()
	l, e := c.run(x)
	first := slices.Clone(l)
	again, _ := c.run(x)
	spoil(l)
	if later, f := c.run(x); !slices.Equal(again, first) || !slices.Equal(later, first) || e != f {
		t.Fatalf("%s of %v: %v %d, and later %v, %v %d", c.name, x, first, e, again, later, f)
	}
}

// checkArgument fails if a call changes its list or the memory behind it, or if what becomes of the list changes the result.
func checkArgument(t *testing.T, c call, x input) {
	t.Helper()
	whole := append(slices.Clone(x.list), 5, 6, 7)
	before := slices.Clone(whole)
	x.list = whole[:len(x.list)]
	l, _ := c.run(x)
	if !slices.Equal(whole, before) {
		t.Fatalf("%s of %d numbers of %v: they are now %v", c.name, len(x.list), before, whole)
	}
	result := slices.Clone(l)
	spoil(whole)
	if !slices.Equal(l, result) {
		t.Fatalf("%s of %v: %v, and with another argument %v", c.name, before[:len(x.list)], result, l)
	}
}

// R4: results of calls of shades share no memory with anything, and shades stay as they are.
func TestMemoryOfShades(t *testing.T) {
	for _, c := range callsOfShades() {
		for _, b := range few() {
			if len(b.shades) > 5 {
				continue
			}
			checkMemory(t, c, input{list: b.shades, round: b.round})
			checkArgument(t, c, input{list: b.shades, round: b.round})
			checkArgument(t, c, input{list: b.box, round: b.round})
			checkArgument(t, c, input{list: b.wide, round: b.round})
		}
	}
	for _, c := range callsOfShades() {
		checkArgument(t, c, input{list: list(1, 2, 3, 4, 5, 6, 7)})
		checkArgument(t, c, input{list: list(7, 6, 5, 4, 3, 2, 1), round: true})
	}
}

// R4: and so it is with orders.
func TestMemoryOfOrders(t *testing.T) {
	for n := 1; n <= 7; n++ {
		for number, order := range turnings()[n] {
			for _, c := range callsOfCigars() {
				checkMemory(t, c, input{cigars: n, place: number})
			}
			for _, c := range callsOfOrders() {
				checkArgument(t, c, input{list: order})
			}
		}
	}
}

// R4: a result of At, changed, is an argument like any other.
func TestChangedOrder(t *testing.T) {
	order, _ := shade.At(4, 0)
	order[1], order[3] = order[3], order[1]
	number, e := shade.Number(order)
	wantNumber(t, "Number", order, number, e, 1, api.OK)
	if again, _ := shade.At(4, 0); !slices.Equal(again, list(0, 2, 1, 3)) {
		t.Errorf("At of 4, 0: %v", again)
	}
}
