package bench_test

import (
	"math/rand"
	"testing"

	"vitola/api"
	"vitola/bench"
)

// key returns an order as something that maps can have as a key.
func key(order []int) string {
	var text []byte
	for _, roller := range order {
		text = append(text, byte('a'+roller))
	}
	return string(text)
}

// P6.3: how many orders are possible, counted one by one.
func TestOrders(t *testing.T) {
	for n := 1; n <= 10; n++ {
		seen := map[string]bool{}
		for count := 1; count <= 2*modelOrders(n)+10; count++ {
			seen[key(modelRun(n, count).order)] = true
		}
		many, e := bench.Orders(n)
		wantNumber(t, "Orders", n, many, e, len(seen), api.OK)
	}
}

// P6.3, P6.8: all numbers of rollers divide the number of orders, and no smaller number above 0.
func TestOrdersDivided(t *testing.T) {
	for n := 1; n <= bench.MaxRollers; n++ {
		many, e := bench.Orders(n)
		wantNumber(t, "Orders", n, many, e, modelOrders(n), api.OK)
	}
}

// P6.4: Remainders of all orders of few rollers.
func TestRemainders(t *testing.T) {
	for n := 1; n <= 8; n++ {
		for order := range orders(n) {
			remainders, e := bench.Remainders(order)
			wantList(t, "Remainders", order, remainders, e, modelRemainders(order))
			if e := bench.Check(order); e != api.OK {
				t.Fatalf("Check of %v: %d", order, e)
			}
		}
	}
}

// P6.4: a count leaves the remainders of its order.
func TestRemaindersOfCounts(t *testing.T) {
	for n, count := range benches(100) {
		order, _ := bench.Order(n, count)
		var want []int
		for place := range order {
			want = append(want, count%(n-place))
		}
		remainders, e := bench.Remainders(order)
		wantList(t, "Remainders", order, remainders, e, want)
	}
}

// P6.5: the smallest count of each order of few rollers, or that there is none.
func TestCount(t *testing.T) {
	for n := 1; n <= 8; n++ {
		smallest := map[string]int{}
		for count := 2 * modelOrders(n); count > 0; count-- {
			smallest[key(modelRun(n, count).order)] = count
		}
		for order := range orders(n) {
			want, f := smallest[key(order)], api.OK
			if want == 0 {
				f = api.ErrLost
			}
			count, e := bench.Count(order)
			wantNumber(t, "Count", order, count, e, want, f)
		}
	}
}

// P6.5, P6.8: an order leads back to its count, or to the smaller one with the same remainders.
func TestCountOfOrder(t *testing.T) {
	for n, count := range benches(300) {
		order := modelRun(n, count).order
		smallest, e := bench.Count(order)
		wantNumber(t, "Count", order, smallest, e, (count-1)%modelOrders(n)+1, api.OK)
	}
}

// checkPossible fails if Count does not tell whether an order is possible.
func checkPossible(t *testing.T, order []int) (possible bool) {
	t.Helper()
	count, e := bench.Count(order)
	rests := modelRemainders(order)
	if !modelPossible(rests) {
		wantNumber(t, "Count", order, count, e, 0, api.ErrLost)
		return false
	}
	if count < 1 || count > modelOrders(len(order)) || e != api.OK {
		t.Fatalf("Count of %v: %d %d", order, count, e)
	}
	for place, rest := range rests {
		if count%(len(order)-place) != rest {
			t.Fatalf("Count of %v: %d, but the remainders are %v", order, count, rests)
		}
	}
	found, e := bench.Order(len(order), count)
	wantList(t, "Order", list(len(order), count), found, e, order)
	return true
}

// P6.5, P6.8: orders that are nearly one of a count, some possible and some not.
func TestNearlyPossible(t *testing.T) {
	var many [2]int
	for n, count := range benches(10) {
		order := modelRun(n, count).order
		for i := range order {
			for j := range i {
				order[i], order[j] = order[j], order[i]
				if checkPossible(t, order) {
					many[1]++
				} else {
					many[0]++
				}
				order[i], order[j] = order[j], order[i]
			}
		}
	}
	if many[0] == 0 || many[1] == 0 {
		t.Errorf("possible: %d, not: %d", many[1], many[0])
	}
}

// P6.5, P6.8: orders at random.
func TestRandomOrders(t *testing.T) {
	random := rand.New(rand.NewSource(6))
	for n := 1; n <= bench.MaxRollers; n++ {
		for range 300 {
			checkPossible(t, random.Perm(n))
		}
	}
}

// anyLeaves returns whether one of the numbers from 1 to the number of orders leaves all remainders.
func anyLeaves(rests []int) bool {
	n := len(rests)
	for number := 1; number <= modelOrders(n); number++ {
		place := 0
		for place < n && number%(n-place) == rests[place] {
			place++
		}
		if place == n {
			return true
		}
	}
	return false
}

// P6.8: an order is possible just if one number leaves all its remainders.
func TestPossible(t *testing.T) {
	for n := 1; n <= 7; n++ {
		for order := range orders(n) {
			rests, _ := bench.Remainders(order)
			leaves := anyLeaves(rests)
			if _, e := bench.Count(order); leaves != (e == api.OK) {
				t.Fatalf("Count of %v: %d, and a number leaves %v: %v", order, e, rests, leaves)
			}
		}
	}
}

// P6.8: two counts have the same order just if all numbers of rollers divide their difference.
func TestSameOrder(t *testing.T) {
	for n := 1; n <= 7; n++ {
		all := modelOrders(n)
		var texts []string
		for count := 1; count <= min(3*all+1, 500); count++ {
			order, _ := bench.Order(n, count)
			texts = append(texts, key(order))
		}
		for i := range texts {
			for j := range i {
				if same := texts[i] == texts[j]; same != ((i-j)%all == 0) {
					t.Fatalf("%d rollers, counts %d and %d: %v", n, j+1, i+1, same)
				}
			}
		}
	}
	for n, count := range benches(30) {
		order, _ := bench.Order(n, count)
		for _, more := range list(modelOrders(n), 2*modelOrders(n), 4*modelOrders(n)) {
			if count+more <= bench.MaxCount {
				same, e := bench.Order(n, count+more)
				wantList(t, "Order", list(n, count+more), same, e, order)
			}
		}
	}
}
