package store_test

import (
	"math/rand"
	"slices"
	"testing"

	"vitola/api"
	"vitola/store"
)

// turned returns the division if the boxes are told in the opposite order.
func turned(division []int) []int {
	rooms := slices.Clone(division)
	slices.Reverse(rooms)
	return modelOf(rooms)
}

// P11.13: if boxes are told in the opposite order, crossings and nestings stay.
func TestOpposite(t *testing.T) {
	for division := range divisions(9) {
		crossings, nestings, e := store.Arcs(division)
		if e != api.OK {
			t.Fatalf("Arcs of %v: %d", division, e)
		}
		wantResult(t, "Arcs", input{a: turned(division)}, crossings, nestings)
	}
}

// reordered returns the division if the boxes get other numbers: its box i is the box order[i].
func reordered(division, order []int) []int {
	labels := make([]int, len(order))
	for i, box := range order {
		labels[i] = division[box]
	}
	return modelOf(labels)
}

// F5: if boxes get other numbers, Finer, Join and Meet go with them.
func TestNames(t *testing.T) {
	random := rand.New(rand.NewSource(13))
	for a, b := range pairs(5, 2000) {
		finer, _ := store.Finer(a, b)
		join, _ := store.Join(a, b)
		meet, _ := store.Meet(a, b)
		order := random.Perm(len(a))
		x := input{a: reordered(a, order), b: reordered(b, order)}
		if is, e := store.Finer(x.a, x.b); is != finer || e != api.OK {
			t.Fatalf("Finer of %v: %v %d, want %v", x, is, e, finer)
		}
		wantResult(t, "Join", x, reordered(join, order)...)
		wantResult(t, "Meet", x, reordered(meet, order)...)
		wantResult(t, "Join", input{a: b, b: a}, join...)
		wantResult(t, "Meet", input{a: b, b: a}, meet...)
	}
}
