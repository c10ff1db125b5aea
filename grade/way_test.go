package grade_test

import (
	"math"
	"slices"
	"testing"

	"vitola/api"
	"vitola/grade"
)

// P3.2: Differ returns the pairs in which two orders differ.
func TestDiffer(t *testing.T) {
	for _, some := range []func(func(twin) bool){twins(5), samples(600)} {
		for w := range some {
			pairs, e := grade.Differ(w.a, w.b)
			if want := modelDiffer(w.a, w.b); !slices.Equal(pairs, want) || e != api.OK {
				t.Fatalf("Differ of %v, %v: %v %d, want %v", w.a, w.b, pairs, e, want)
			}
		}
	}
}

// checkWay compares Way with the first of the shortest ways, and asks Leads for it.
func checkWay(t *testing.T, a, b []int, far map[string]int) {
	t.Helper()
	way, e := grade.Way(a, b)
	if want := modelWay(a, far); !slices.Equal(way, want) || e != api.OK {
		t.Fatalf("Way of %v, %v: %v %d, want %v", a, b, way, e, want)
	}
	pairs, _ := grade.Differ(a, b)
	if len(pairs) != len(way) {
		t.Fatalf("Way of %v, %v: %v, but they differ in %v", a, b, way, pairs)
	}
	if e := grade.Leads(a, b, way); e != api.OK {
		t.Fatalf("Leads of %v, %v refuses %v: %d", a, b, way, e)
	}
}

// P3.3, P3.10: Way is the first of the shortest ways, as long as the distance, and Leads accepts it.
func TestWay(t *testing.T) {
	for bales := 1; bales <= 5; bales++ {
		all := orders(bales)
		for _, b := range all {
			far := modelFar(b)
			for _, a := range all {
				checkWay(t, a, b, far)
			}
		}
	}
	for bales := 6; bales <= 7; bales++ {
		all := orders(bales)
		next := dice(7)
		for range 4 {
			b := all[next(len(all))]
			far := modelFar(b)
			for i := next(5); i < len(all); i += 5 {
				checkWay(t, all[i], b, far)
			}
		}
	}
}

// modelLeads follows exchanges from a.
func modelLeads(a, b, places []int) api.Errno {
	l := slices.Clone(a)
	for _, i := range places {
		if i < 0 || i > len(a)-2 {
			return api.ErrNone
		}
	}
	for _, i := range places {
		l[i], l[i+1] = l[i+1], l[i]
	}
	if !slices.Equal(l, b) {
		return api.ErrLost
	}
	return api.OK
}

// P3.3: Leads accepts all exchanges that lead to b, and no others.
func TestLeads(t *testing.T) {
	for bales := 1; bales <= 3; bales++ {
		for length := range 5 {
			for places := range lists(length, -1, bales) {
				for _, a := range orders(bales) {
					for _, b := range orders(bales) {
						if e := grade.Leads(a, b, places); e != modelLeads(a, b, places) {
							t.Fatalf("Leads of %v, %v, %v: %d", a, b, places, e)
						}
					}
				}
			}
		}
	}
	next := dice(11)
	for w := range samples(400) {
		way, _ := grade.Way(w.a, w.b)
		for range 4 {
			places := slices.Clone(way)
			for range next(3) {
				i := next(len(w.a) - 1)
				places = slices.Insert(places, next(len(places)+1), i, i)
			}
			if len(places) > 0 && next(2) == 0 {
				i := next(len(places))
				places = slices.Delete(places, i, i+1)
			}
			if e := grade.Leads(w.a, w.b, places); e != modelLeads(w.a, w.b, places) {
				t.Fatalf("Leads of %v, %v, %v: %d", w.a, w.b, places, e)
			}
		}
	}
}

// P3.3: Leads refuses what is no place, before it tells where exchanges lead.
func TestWrongPlaces(t *testing.T) {
	for bales := 1; bales <= 7; bales++ {
		a := orders(bales)[0]
		for _, place := range list(-1, bales-1, bales, 64, 1<<32, math.MaxInt, math.MinInt) {
			for _, places := range [][]int{list(place), list(place, place), list(0, 0, place), list(place, 0, 0), list(0, place)} {
				for _, b := range [][]int{a, turnedRound(a)} {
					if e := grade.Leads(a, b, places); e != api.ErrNone {
						t.Errorf("Leads of %v, %v, %v: %d, want ErrNone", a, b, places, e)
					}
				}
			}
		}
		for _, b := range [][]int{a, turnedRound(a)} {
			if e := grade.Leads(a, b, nil); (e == api.OK) != slices.Equal(a, b) || e != api.OK && e != api.ErrLost {
				t.Errorf("Leads of %v, %v without places: %d", a, b, e)
			}
		}
		if bales == 1 {
			continue
		}
		if e := grade.Leads(a, a, slices.Repeat(list(bales-2), 100_000)); e != api.OK {
			t.Errorf("Leads of %v and itself with many places: %d", a, e)
		}
		if e := grade.Leads(a, a, slices.Repeat(list(0), 100_001)); e != api.ErrLost {
			t.Errorf("Leads of %v and itself with an odd number of exchanges: %d", a, e)
		}
	}
}

// P3.14: if bales are given other numbers the distance stays, and so does Joint.
func TestOtherNumbers(t *testing.T) {
	next := dice(5)
	for w := range inputs() {
		all := orders(len(w.a))
		pairs, _ := grade.Differ(w.a, w.b)
		joint, _ := grade.Joint(w.a, w.b)
		for range 3 {
			names := all[next(len(all))]
			a, b := renamed(w.a, names), renamed(w.b, names)
			other, e := grade.Differ(a, b)
			if len(other) != len(pairs) || e != api.OK {
				t.Fatalf("Differ of %v, %v: %v, with the names %v: %v %d", w.a, w.b, pairs, names, other, e)
			}
			if n, e := grade.Joint(a, b); n != joint || e != api.OK {
				t.Fatalf("Joint of %v, %v: %d, with the names %v: %d %d", w.a, w.b, joint, names, n, e)
			}
		}
	}
}

// renamed returns an order with other numbers for its bales.
func renamed(l, names []int) []int {
	var other []int
	for _, bale := range l {
		other = append(other, names[bale])
	}
	return other
}
