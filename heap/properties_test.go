package heap_test

import (
	"slices"
	"testing"

	"vitola/api"
	"vitola/heap"
)

// P2.8: there is a plan just if no span is crowded, and Why returns one that is.
func TestHall(t *testing.T) {
	for l := range inputs() {
		for hands := 1; hands <= 5; hands++ {
			crowded := false
			for from := range 24 {
				for to := from; to < 24; to++ {
					n, _ := heap.Crowd(l, from, to)
					crowded = crowded || n > (to-from+1)*hands
				}
			}
			if _, e := heap.Plan(l, hands); (e == api.ErrLost) != crowded {
				t.Fatalf("Plan of %v, %d: %d, a span is crowded: %v", l, hands, e, crowded)
			}
			from, to, e := heap.Why(l, hands)
			if (e == api.OK) != crowded {
				t.Fatalf("Why of %v, %d: %d, a span is crowded: %v", l, hands, e, crowded)
			}
			if n, _ := heap.Crowd(l, from, to); crowded && n <= (to-from+1)*hands {
				t.Fatalf("Why of %v, %d: %d %d, where %d heaps lie", l, hands, from, to, n)
			}
		}
	}
}

// P2.2, P2.6: what Plan and Hours return is accepted.
func TestAccepted(t *testing.T) {
	for l := range inputs() {
		for hands := 1; hands <= 5; hands++ {
			p, e := heap.Plan(l, hands)
			if e == api.OK && heap.Verify(l, hands, p) != api.OK {
				t.Fatalf("Verify of %v, %d refuses %v", l, hands, p)
			}
			if end, f := heap.Finish(l, hands); e == api.OK && f == api.OK && end > slices.Max(append(p, 0)) {
				t.Fatalf("Finish of %v, %d: %d, but the plan is %v", l, hands, end, p)
			}
		}
		hours, _ := heap.Hours(l)
		if e := heap.Meets(l, hours); e != api.OK {
			t.Fatalf("Meets of %v refuses %v: %d", l, hours, e)
		}
	}
}

// P2.9: there are as many hours as heaps apart.
func TestComing(t *testing.T) {
	for l := range inputs() {
		hours, _ := heap.Hours(l)
		a, _ := heap.Apart(l)
		if len(hours) != len(a) {
			t.Fatalf("%v: Hours %v, Apart %v", l, hours, a)
		}
		if !modelApart(pick(l, a)) {
			t.Fatalf("%v: Apart %v", l, a)
		}
	}
}

// planned returns whether there is a plan.
func planned(l []heap.Heap, hands int) bool {
	_, e := heap.Plan(l, hands)
	return e == api.OK
}

// plannedChoices returns all choices of heaps for which there is a plan.
func plannedChoices(l []heap.Heap, hands int) [][]int {
	var found [][]int
	for many := range len(l) + 1 {
		for indices := range choices(len(l), many) {
			if planned(pick(l, indices), hands) {
				found = append(found, indices)
			}
		}
	}
	return found
}

// P2.10: to the smaller one of two choices a heap of the other one can be added.
func TestChoices(t *testing.T) {
	for l := range small() {
		for hands := 1; hands <= 2; hands++ {
			all := plannedChoices(l, hands)
			kept, _ := heap.Keep(l, hands)
			for _, a := range all {
				canGrow := func(from []int) bool {
					return slices.ContainsFunc(from, func(i int) bool {
						with := append(slices.Clone(a), i)
						return !slices.Contains(a, i) && planned(pick(l, with), hands)
					})
				}
				for _, b := range all {
					if len(a) < len(b) && !canGrow(b) {
						t.Fatalf("%v, %d hands: no heap of %v can be added to %v", l, hands, b, a)
					}
				}
				if every := list(0, 1, 2, 3)[:len(l)]; len(a) != len(kept) && !canGrow(every) {
					t.Fatalf("%v, %d hands: no heap can be added to %v, but Keep is %v", l, hands, a, kept)
				}
			}
		}
	}
}

// wider returns the heaps with an hour more before or behind one of them.
func wider(l []heap.Heap, i, before, behind int) []heap.Heap {
	other := slices.Clone(l)
	other[i].From = max(other[i].From-before, 0)
	other[i].To = min(other[i].To+behind, heap.MaxHour)
	return other
}

// P2.11: with more hands or hours, or a heap less, a plan remains one.
func TestMore(t *testing.T) {
	for l := range inputs() {
		fewest, _ := heap.Fewest(l)
		for hands := 1; hands <= 5; hands++ {
			p, e := heap.Plan(l, hands)
			if e != api.OK {
				continue
			}
			if f := heap.Verify(l, hands+1, p); f != api.OK {
				t.Fatalf("Verify of %v, %d: %d", l, hands+1, f)
			}
			end, _ := heap.Finish(l, hands)
			if sooner, f := heap.Finish(l, hands+1); sooner > end || f != api.OK {
				t.Fatalf("Finish of %v: %d with %d, %d %d with more", l, end, hands, sooner, f)
			}
			for i := range l {
				if f := heap.Verify(wider(l, i, 1, 0), hands, p); f != api.OK {
					t.Fatalf("Verify of %v, %d earlier: %d", l, i, f)
				}
				if f := heap.Verify(wider(l, i, 0, 1), hands, p); f != api.OK {
					t.Fatalf("Verify of %v, %d later: %d", l, i, f)
				}
				fewer, less := slices.Delete(slices.Clone(l), i, i+1), slices.Delete(slices.Clone(p), i, i+1)
				if f := heap.Verify(fewer, hands, less); f != api.OK {
					t.Fatalf("Verify of %v without %d: %d", l, i, f)
				}
				if n, _ := heap.Fewest(fewer); n > fewest {
					t.Fatalf("Fewest of %v: %d, without %d: %d", l, fewest, i, n)
				}
			}
		}
	}
}

// moved returns numbers that are all greater by the same one.
func moved(l []int, by int) []int {
	other := slices.Clone(l)
	for i := range other {
		other[i] += by
	}
	return other
}

// P2.12: if all hours are moved, so are those of the results.
func TestMoved(t *testing.T) {
	for l := range inputs() {
		if len(l) == 0 {
			continue
		}
		last := slices.MaxFunc(l, func(a, b heap.Heap) int { return a.To - b.To }).To
		for by := 1; last+by <= heap.MaxHour; by += 3 {
			other := slices.Clone(l)
			for i := range other {
				other[i].From += by
				other[i].To += by
			}
			hours, _ := heap.Hours(l)
			if h, e := heap.Hours(other); !slices.Equal(h, moved(hours, by)) || e != api.OK {
				t.Fatalf("Hours of %v: %v, moved by %d: %v %d", l, hours, by, h, e)
			}
			for hands := 1; hands <= 3; hands++ {
				checkMoved(t, l, other, hands, by)
			}
		}
	}
}

// checkMoved compares Plan, Finish and Why of heaps and of the same ones moved.
func checkMoved(t *testing.T, l, other []heap.Heap, hands, by int) {
	t.Helper()
	p, e := heap.Plan(l, hands)
	q, f := heap.Plan(other, hands)
	if !slices.Equal(q, moved(p, by)) || e != f {
		t.Fatalf("Plan of %v, %d: %v %d, moved by %d: %v %d", l, hands, p, e, by, q, f)
	}
	a, e := heap.Finish(l, hands)
	b, f := heap.Finish(other, hands)
	if e != f || e == api.OK && b != a+by {
		t.Fatalf("Finish of %v, %d: %d %d, moved by %d: %d %d", l, hands, a, e, by, b, f)
	}
	from, to, e := heap.Why(l, hands)
	from2, to2, f := heap.Why(other, hands)
	if e != f || e == api.OK && from2 >= from+by && (from2 != from+by || to2 != to+by) {
		t.Fatalf("Why of %v, %d: %d %d %d, moved by %d: %d %d %d", l, hands, from, to, e, by, from2, to2, f)
	}
}

// measures returns what stays in another order of the heaps, and if hours are turned round.
func measures(l []heap.Heap) []int {
	var m []int
	for hands := 1; hands <= 4; hands++ {
		_, e := heap.Plan(l, hands)
		k, _ := heap.Keep(l, hands)
		m = append(m, int(e), len(k))
	}
	a, _ := heap.Apart(l)
	hours, _ := heap.Hours(l)
	return append(m, len(a), len(hours))
}

// P2.12: two neighbours exchanged, or hours turned round, change none of it; exchanges lead to every order.
func TestOtherOrder(t *testing.T) {
	for l := range inputs() {
		want := measures(l)
		for i := 1; i < len(l); i++ {
			other := slices.Clone(l)
			other[i-1], other[i] = l[i], l[i-1]
			if m := measures(other); !slices.Equal(m, want) {
				t.Fatalf("%v: %v, %v: %v", l, want, other, m)
			}
		}
		round := slices.Clone(l)
		for i, h := range l {
			round[i] = heap.Heap{From: heap.MaxHour - h.To, To: heap.MaxHour - h.From}
		}
		if m := measures(round); !slices.Equal(m, want) {
			t.Fatalf("%v: %v, turned round: %v", l, want, m)
		}
	}
}
