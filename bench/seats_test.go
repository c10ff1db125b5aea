package bench_test

import (
	"testing"

	"vitola/api"
	"vitola/bench"
)

// P6.1, P6.2: what becomes of rollers who are counted out.
func TestOrder(t *testing.T) {
	for n, count := range benches(150) {
		x := modelRun(n, count)
		order, e := bench.Order(n, count)
		wantList(t, "Order", list(n, count), order, e, x.order)
		last, e := bench.Last(n, count)
		wantNumber(t, "Last", list(n, count), last, e, x.order[n-1], api.OK)
		for place, roller := range x.order {
			when, e := bench.When(n, count, roller)
			wantNumber(t, "When", list(n, count, roller), when, e, place, api.OK)
			who, e := bench.Who(n, count, place)
			wantNumber(t, "Who", list(n, count, place), who, e, roller, api.OK)
			times, e := bench.Counted(n, count, roller)
			wantNumber(t, "Counted", list(n, count, roller), times, e, x.counted[roller], api.OK)
		}
	}
}

// P6.11 (F6): When and Who are the inverse of each other, and are those of Order.
func TestWhenAndWho(t *testing.T) {
	for n, count := range benches(40) {
		order, _ := bench.Order(n, count)
		for number := range n {
			when, _ := bench.When(n, count, number)
			who, e := bench.Who(n, count, when)
			wantNumber(t, "Who", list(n, count, when), who, e, number, api.OK)
			if order[when] != number {
				t.Fatalf("When of %d, %d, %d: %d, but the order is %v", n, count, number, when, order)
			}
			who, _ = bench.Who(n, count, number)
			when, e = bench.When(n, count, who)
			wantNumber(t, "When", list(n, count, who), when, e, number, api.OK)
			if order[number] != who {
				t.Fatalf("Who of %d, %d, %d: %d, but the order is %v", n, count, number, who, order)
			}
		}
	}
}

// P6.9: who stays last if one roller more sits at the bench.
func TestOneMore(t *testing.T) {
	for n, count := range benches(200) {
		if n == bench.MaxRollers {
			continue
		}
		last, _ := bench.Last(n, count)
		more, e := bench.Last(n+1, count)
		wantNumber(t, "Last", list(n+1, count), more, e, (last+count)%(n+1), api.OK)
	}
}

// P6.10: who stays last for the count 2.
func TestByTwos(t *testing.T) {
	for n := 1; n <= bench.MaxRollers; n++ {
		power := 1
		for 2*power <= n {
			power *= 2
		}
		last, e := bench.Last(n, 2)
		wantNumber(t, "Last", list(n, 2), last, e, 2*(n-power), api.OK)
	}
}

// P6.12 (F2): all are counted n times k times, and who goes earlier not more often than once more.
func TestCountedTogether(t *testing.T) {
	for n, count := range benches(100) {
		order, _ := bench.Order(n, count)
		sum := 0
		fewest := n * count
		for place := n - 1; place >= 0; place-- {
			times, e := bench.Counted(n, count, order[place])
			if times > fewest+1 || e != api.OK {
				t.Fatalf("Counted of %d, %d, %d: %d %d, but %d of one who goes later", n, count, order[place], times, e, fewest)
			}
			fewest = min(fewest, times)
			sum += times
		}
		if sum != n*count {
			t.Fatalf("%d rollers are counted %d times for the count %d", n, sum, count)
		}
	}
}

// P6.13 (F5): the bench goes around the other way for the count that is as far from the other end.
func TestTurned(t *testing.T) {
	for n, count := range benches(500) {
		all, _ := bench.Orders(n)
		if count > all {
			continue
		}
		order, _ := bench.Order(n, count)
		turned, e := bench.Order(n, all+1-count)
		for place, roller := range order {
			if e != api.OK || turned[place] != n-1-roller {
				t.Fatalf("Order of %d, %d: %v, of %d: %v %d", n, count, order, all+1-count, turned, e)
			}
		}
	}
}
