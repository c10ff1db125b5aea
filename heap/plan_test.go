package heap_test

import (
	"math"
	"slices"
	"testing"

	"vitola/api"
	"vitola/heap"
)

// P2.2, P2.4: for few heaps, Plan, Verify and Finish are those of the list of all plans.
func TestAllPlans(t *testing.T) {
	for l := range small() {
		for hands := 1; hands <= 4; hands++ {
			var first []int
			end, planError := math.MaxInt, api.ErrLost
			for p := range lists(len(l), list(0, 1, 2, 3)) {
				want := modelVerify(l, hands, p)
				if e := heap.Verify(l, hands, p); e != want {
					t.Fatalf("Verify of %v, %d, %v: %d, want %d", l, hands, p, e, want)
				}
				if want != api.OK {
					continue
				}
				if planError != api.OK {
					first, planError = p, api.OK
				}
				end = min(end, slices.Max(append(p, 0)))
			}
			if planError != api.OK {
				end = 0
			}
			if p, e := heap.Plan(l, hands); !slices.Equal(p, first) || e != planError {
				t.Fatalf("Plan of %v, %d: %v %d, want %v %d", l, hands, p, e, first, planError)
			}
			if n, e := heap.Finish(l, hands); n != end || e != planError {
				t.Fatalf("Finish of %v, %d: %d %d, want %d %d", l, hands, n, e, end, planError)
			}
		}
	}
}

// P2.2, P2.3, P2.4: Plan, Why, Fewest and Finish.
func TestPlans(t *testing.T) {
	for l := range samples(2000) {
		fewest := 0
		for hands := heap.MaxHeaps; hands >= 1; hands-- {
			plan, planned := modelPlan(l, hands)
			end, lost, clash := 0, api.ErrLost, api.OK
			if planned {
				end, lost, clash = modelFinish(l, hands), api.OK, api.ErrClash
			}
			if !planned && fewest == 0 {
				fewest = hands + 1
			}
			if p, e := heap.Plan(l, hands); !slices.Equal(p, plan) || e != lost {
				t.Fatalf("Plan of %v, %d: %v %d, want %v %d", l, hands, p, e, plan, lost)
			}
			from, to, _ := modelWhy(l, hands)
			if a, b, e := heap.Why(l, hands); a != from || b != to || e != clash {
				t.Fatalf("Why of %v, %d: %d %d %d, want %d %d %d", l, hands, a, b, e, from, to, clash)
			}
			if n, e := heap.Finish(l, hands); n != end || e != lost {
				t.Fatalf("Finish of %v, %d: %d %d, want %d %d", l, hands, n, e, end, lost)
			}
		}
		if fewest == 0 && len(l) > 0 {
			fewest = 1
		}
		if n, e := heap.Fewest(l); n != fewest || e != api.OK {
			t.Fatalf("Fewest of %v: %d %d, want %d", l, n, e, fewest)
		}
	}
}

// P2.2, P2.3, P2.4: ten heaps at one hour, and ten that can be turned at all hours.
func TestTenHeaps(t *testing.T) {
	one, all := slices.Repeat(heaps(23, 23), 10), slices.Repeat(heaps(0, 23), 10)
	for hands := 1; hands <= 10; hands++ {
		_, e := heap.Plan(one, hands)
		from, to, f := heap.Why(one, hands)
		crowdedFrom := 23 - (9 / hands) + 1
		if hands == 10 {
			if e != api.OK || f != api.ErrClash {
				t.Errorf("Plan with 10: %d, Why: %d", e, f)
			}
		} else if e != api.ErrLost || f != api.OK || from != crowdedFrom || to != 23 {
			t.Errorf("Plan with %d: %d, Why: %d %d %d, want from %d", hands, e, from, to, f, crowdedFrom)
		}
		p, e := heap.Plan(all, hands)
		for i, hour := range p {
			if hour != i/hands {
				t.Errorf("Plan with %d: %v", hands, p)
			}
		}
		if end, f := heap.Finish(all, hands); len(p) != 10 || e != api.OK || f != api.OK || end != 9/hands {
			t.Errorf("Plan with %d: %v %d, Finish: %d %d", hands, p, e, end, f)
		}
	}
	if n, e := heap.Fewest(one); n != 10 || e != api.OK {
		t.Errorf("Fewest: %d %d", n, e)
	}
}

// P2.2: the errors of Verify, in their order.
func TestVerify(t *testing.T) {
	for _, x := range []struct {
		hands int
		plan  []int
		want  api.Errno
	}{
		{0, list(9), api.ErrRange},
		{11, list(0, 0, 1, 1, 4), api.ErrRange},
		{2, nil, api.ErrShape},
		{2, list(0, 0, 1, 1), api.ErrShape},
		{2, list(-1, 0, 1, 1, 4, 9), api.ErrShape},
		{2, make([]int, 1_000_000), api.ErrShape},
		{2, list(0, 0, 1, 1, 4), api.OK},
		{2, list(1, 0, 1, 1, 7), api.ErrOver},
		{2, list(2, 0, 1, 1, 4), api.ErrRange},
		{2, list(0, 0, 1, 1, 7), api.ErrRange},
		{2, list(0, 0, 1, 1, 3), api.ErrRange},
		{2, list(-1, 0, 1, 1, 4), api.ErrRange},
		{2, list(0, 0, 1, 1, math.MaxInt), api.ErrRange},
		{2, list(math.MinInt, 0, 1, 1, 4), api.ErrRange},
		{1, list(0, 0, 9, 9, 9), api.ErrOver},
		{1, list(0, 1, 9, 9, 9), api.ErrRange},
		{1, list(1, 0, 2, 1, 4), api.ErrOver},
		{3, list(1, 0, 1, 1, 6), api.OK},
		{10, list(1, 0, 1, 1, 6), api.OK},
	} {
		if e := heap.Verify(yard(), x.hands, x.plan); e != x.want {
			t.Errorf("Verify of Y, %d, %d numbers: %d, want %d", x.hands, len(x.plan), e, x.want)
		}
	}
	for _, plan := range [][]int{nil, {}} {
		if e := heap.Verify(nil, 1, plan); e != api.OK {
			t.Errorf("Verify of no heaps: %d", e)
		}
	}
	if e := heap.Verify(nil, 1, list(0)); e != api.ErrShape {
		t.Errorf("Verify of no heaps, 0: %d", e)
	}
}

// P2.3: for few heaps, Why and Fewest.
func TestWhyOfFew(t *testing.T) {
	for l := range small() {
		fewest := 0
		for hands := 4; hands >= 1; hands-- {
			from, to, crowded := modelWhy(l, hands)
			clash := api.ErrClash
			if crowded {
				clash = api.OK
				fewest = max(fewest, hands)
			}
			if a, b, e := heap.Why(l, hands); a != from || b != to || e != clash {
				t.Fatalf("Why of %v, %d: %d %d %d, want %d %d %d", l, hands, a, b, e, from, to, clash)
			}
		}
		if len(l) > 0 {
			fewest++
		}
		if n, e := heap.Fewest(l); n != fewest || e != api.OK {
			t.Fatalf("Fewest of %v: %d %d, want %d", l, n, e, fewest)
		}
	}
}

// P2.5: Keep returns the first of the largest choices.
func TestKeep(t *testing.T) {
	for l := range inputs() {
		for hands := 1; hands <= 4; hands++ {
			want := largest(l, func(some []heap.Heap) bool { return modelPossible(some, hands) })
			if k, e := heap.Keep(l, hands); !slices.Equal(k, want) || e != api.OK {
				t.Fatalf("Keep of %v, %d: %v %d, want %v", l, hands, k, e, want)
			}
		}
	}
}
