package bench_test

import (
	"slices"
	"testing"

	"vitola/bench"
)

// spoil overwrites a list and all the memory behind it.
func spoil(l []int) {
	l = l[:cap(l)]
	for i := range l {
		l[i] = 77
	}
}

// R4: results share no memory with one another, and what becomes of one changes no later one.
func TestMemory(t *testing.T) {
	for _, c := range calls() {
		for n, count := range benches(5) {
			order := modelRun(n, count).order
			x := input{rollers: n, count: count, number: count % n, rollersOf: order}
			l, e := c.run(x)
			first := slices.Clone(l)
			again, _ := c.run(x)
			spoil(l)
			if later, f := c.run(x); !slices.Equal(again, first) || !slices.Equal(later, first) || e != f {
				t.Fatalf("%s of %v: %v %d, and later %v, %v %d", c.name, x, first, e, again, later, f)
			}
		}
	}
}

// R4: arguments stay as they are, with all the memory behind them, and what becomes of them changes no result.
func TestArguments(t *testing.T) {
	for _, c := range append(callsOfOrders(), callsOfRollers()...) {
		for n := 1; n <= bench.MaxRollers; n++ {
			for _, count := range list(1, 3, 12345) {
				checkArgument(t, c, n, modelRun(n, count).order)
			}
		}
	}
}

// checkArgument gives a call an order, and parts of it, that go on behind their end.
func checkArgument(t *testing.T, c call, n int, order []int) {
	t.Helper()
	for many := range n + 1 {
		whole := append(slices.Clone(order), 5, 6, 7)
		if c.name == "First" {
			slices.Sort(whole[:many])
		}
		before := slices.Clone(whole)
		l, _ := c.run(input{rollers: n, rollersOf: whole[:many]})
		if !slices.Equal(whole, before) {
			t.Fatalf("%s of %d numbers of %v: they are now %v", c.name, many, before, whole)
		}
		result := slices.Clone(l)
		spoil(whole)
		if !slices.Equal(l, result) {
			t.Fatalf("%s of %v: %v, and with another argument %v", c.name, before[:many], result, l)
		}
	}
}

// R4: a result of Order, changed, is an argument like any other.
func TestChangedOrder(t *testing.T) {
	order, _ := bench.Order(7, 3)
	order[0], order[1] = order[1], order[0]
	kept := slices.Clone(order)
	remainders, _ := bench.Remainders(order)
	spoil(remainders)
	if !slices.Equal(order, kept) {
		t.Errorf("Remainders changed %v to %v", kept, order)
	}
}
