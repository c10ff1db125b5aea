package store_test

import (
	"iter"
	"math/rand"
	"slices"
	"testing"

	"vitola/api"
	"vitola/store"
)

// P11.5: Arcs of all divisions, and how many of them are flat.
func TestArcs(t *testing.T) {
	for boxes := 1; boxes <= 9; boxes++ {
		flat := 0
		for _, division := range everyDivision[boxes] {
			crossings, nestings := modelMet(division)
			wantResult(t, "Arcs", input{a: division}, crossings, nestings)
			if crossings == 0 {
				flat++
			}
		}
		wantResult(t, "Flat", input{boxes: boxes}, flat)
	}
}

// P11.10: as many divisions have so many crossings and nestings as have so many nestings and crossings.
func TestCrossingsAndNestings(t *testing.T) {
	for boxes := 1; boxes <= 9; boxes++ {
		many := map[[2]int]int{}
		for _, division := range everyDivision[boxes] {
			crossings, nestings, e := store.Arcs(division)
			if e != api.OK {
				t.Fatalf("Arcs of %v: %d", division, e)
			}
			many[[2]int{crossings, nestings}]++
		}
		noNesting := 0
		for of, divisions := range many {
			if other := many[[2]int{of[1], of[0]}]; other != divisions {
				t.Errorf("%d boxes: %d divisions with %v, %d the other way round", boxes, divisions, of, other)
			}
			if of[1] == 0 {
				noNesting += divisions
			}
		}
		wantResult(t, "Flat", input{boxes: boxes}, noNesting)
	}
}

// P11.6, P11.7: Gaps and Back of all divisions; ErrClash just for those that are not flat.
func TestGaps(t *testing.T) {
	for division := range divisions(9) {
		x := input{a: division}
		if !modelFlat(division) {
			wantError(t, named("Gaps"), x, api.ErrClash)
			wantError(t, named("Back"), x, api.ErrClash)
			continue
		}
		gaps := modelGaps(division)
		wantResult(t, "Gaps", x, gaps...)
		wantResult(t, "Back", input{a: gaps}, division...)
	}
}

// P11.7: the division of the gaps is flat, both have one room more than boxes, and each flat division belongs to just one.
func TestKreweras(t *testing.T) {
	for boxes := 1; boxes <= 9; boxes++ {
		owners := map[int]int{}
		for _, division := range flatOnes(boxes) {
			gaps, e := store.Gaps(division)
			number, f := store.Number(gaps)
			if e != api.OK || f != api.OK || len(gaps) != boxes || modelRooms(division)+modelRooms(gaps) != boxes+1 {
				t.Fatalf("Gaps of %v: %v %d %d", division, gaps, e, f)
			}
			wantResult(t, "Back", input{a: gaps}, division...)
			owners[number]++
		}
		for number, division := range everyDivision[boxes] {
			many := 0
			if modelFlat(division) {
				many = 1
			}
			if owners[number] != many {
				t.Fatalf("%v is the division of the gaps of %d flat ones, want %d", division, owners[number], many)
			}
		}
	}
}

// P11.8: the gaps of the gaps are the boxes, each one place before its own.
func TestTurned(t *testing.T) {
	for boxes := 1; boxes <= 9; boxes++ {
		for _, division := range flatOnes(boxes) {
			gaps, _ := store.Gaps(division)
			twice, e := store.Gaps(gaps)
			if e != api.OK {
				t.Fatalf("Gaps of %v: %d", gaps, e)
			}
			before, after := togetherIn(division), togetherIn(twice)
			for i := range boxes {
				for j := range boxes {
					if after[i][j] != before[(i+1)%boxes][(j+1)%boxes] {
						t.Fatalf("Gaps of Gaps of %v: %v", division, twice)
					}
				}
			}
		}
	}
}

// flatSamples gives so many pairs of flat divisions of 8 and of 9 boxes, always the same ones.
func flatSamples(many int) iter.Seq2[[]int, []int] {
	return func(yield func(a, b []int) bool) {
		random := rand.New(rand.NewSource(12))
		for boxes := 8; boxes <= 9; boxes++ {
			flat := flatOnes(boxes)
			for range many {
				if !yield(flat[random.Intn(len(flat))], flat[random.Intn(len(flat))]) {
					return
				}
			}
		}
	}
}

// wantTurned checks that of two flat divisions, the first one finer, the gaps are finer the other way round.
func wantTurned(t *testing.T, a, b []int) {
	t.Helper()
	fine, e := store.Gaps(a)
	coarse, f := store.Gaps(b)
	if is, g := store.Finer(coarse, fine); !is || e != api.OK || f != api.OK || g != api.OK {
		t.Fatalf("Finer of %v, %v, the gaps of %v, %v: %v %d", coarse, fine, b, a, is, g)
	}
}

// P11.12: if a flat division is finer than another one, it is so with their gaps the other way round.
func TestFinerGaps(t *testing.T) {
	for boxes := 1; boxes <= 7; boxes++ {
		flat := flatOnes(boxes)
		for _, a := range flat {
			for _, b := range flat {
				if modelFiner(a, b) {
					wantTurned(t, a, b)
				}
			}
		}
	}
	for a, b := range flatSamples(1500) {
		meet, _ := store.Meet(a, b)
		wantTurned(t, meet, a)
		wantTurned(t, meet, b)
	}
}

// P11.6, P11.7: Back of a division of gaps that is found by hand, in which a gap is alone or with the last one.
func TestBack(t *testing.T) {
	for boxes := 1; boxes <= 9; boxes++ {
		together := make([]int, boxes)
		alone := make([]int, boxes)
		for box := range alone {
			alone[box] = box
		}
		wantResult(t, "Back", input{a: alone}, together...)
		wantResult(t, "Back", input{a: together}, alone...)
		// The gaps before and behind a box that is alone are together; before the box 0 is the last gap.
		for box := range boxes {
			if boxes == 1 {
				continue
			}
			rooms := slices.Clone(alone)
			rooms[box] = alone[(box+boxes-1)%boxes]
			division := make([]int, boxes)
			division[box] = 1
			wantResult(t, "Back", input{a: modelOf(rooms)}, modelOf(division)...)
		}
	}
}
