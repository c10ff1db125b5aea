package bench_test

import (
	"testing"

	"vitola/api"
	"vitola/bench"
)

// The table of examples of the chapter.
func TestExamplesOfOrders(t *testing.T) {
	for _, x := range []struct {
		rollers, count int
		want           []int
	}{{7, 3, list(2, 5, 1, 6, 4, 0, 3)}, {4, 2, list(1, 3, 2, 0)}, {3, 1, list(0, 1, 2)}} {
		order, e := bench.Order(x.rollers, x.count)
		wantList(t, "Order", x, order, e, x.want)
	}
	if order, e := bench.Order(4, 0); len(order) != 0 || e != api.ErrRange {
		t.Errorf("Order of 4, 0: %v %d", order, e)
	}
	last, e := bench.Last(7, 3)
	wantNumber(t, "Last", "7, 3", last, e, 3, api.OK)
	for _, x := range []struct {
		name      string
		call      func(rollers, count, number int) (int, api.Errno)
		with, out int
		e         api.Errno
	}{
		{"When", bench.When, 4, 4, api.OK},
		{"When", bench.When, 7, 0, api.ErrNone},
		{"Who", bench.Who, 0, 2, api.OK},
		{"Counted", bench.Counted, 0, 5, api.OK},
		{"Counted", bench.Counted, 2, 1, api.OK},
		{"Counted", bench.Counted, 3, 7, api.OK},
	} {
		n, e := x.call(7, 3, x.with)
		wantNumber(t, x.name, list(7, 3, x.with), n, e, x.out, x.e)
	}
}

func TestExamplesOfCounts(t *testing.T) {
	for _, x := range [][2]int{{1, 1}, {4, 12}, {7, 420}, {20, 232792560}} {
		many, e := bench.Orders(x[0])
		wantNumber(t, "Orders", x[0], many, e, x[1], api.OK)
	}
	for _, x := range []struct {
		order []int
		want  int
		e     api.Errno
	}{
		{list(1, 3, 2, 0), 2, api.OK},
		{list(3, 2, 1, 0), 12, api.OK},
		{list(0, 2, 1, 3), 0, api.ErrLost},
		{list(0, 0), 0, api.ErrTwice},
	} {
		count, e := bench.Count(x.order)
		wantNumber(t, "Count", x.order, count, e, x.want, x.e)
	}
	for _, x := range [][2][]int{{list(1, 3, 2, 0), list(2, 2, 0, 0)}, {list(0, 2, 1, 3), list(1, 2, 0, 0)}} {
		remainders, e := bench.Remainders(x[0])
		wantList(t, "Remainders", x[0], remainders, e, x[1])
	}
}

func TestExamplesOfTries(t *testing.T) {
	for _, x := range []struct {
		rollers, roller, want int
		e                     api.Errno
	}{{7, 3, 3, api.OK}, {7, 0, 11, api.OK}, {1, 0, 1, api.OK}, {7, 7, 0, api.ErrNone}} {
		count, e := bench.Smallest(x.rollers, x.roller)
		wantNumber(t, "Smallest", x, count, e, x.want, x.e)
	}
	for _, x := range []struct {
		rollers int
		home    []int
		want    int
		e       api.Errno
	}{
		{7, list(1, 2, 5), 3, api.OK},
		{7, nil, 1, api.OK},
		{4, list(0, 3), 4, api.OK},
		{7, list(2, 1), 0, api.ErrOrder},
	} {
		count, e := bench.First(x.rollers, x.home)
		wantNumber(t, "First", x, count, e, x.want, x.e)
	}
}
