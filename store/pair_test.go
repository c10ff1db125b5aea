package store_test

import (
	"slices"
	"testing"

	"vitola/api"
	"vitola/store"
)

// P11.4, P11.11: Finer, Join and Meet, for all pairs of up to 6 boxes and samples.
func TestPairs(t *testing.T) {
	for a, b := range pairs(6, 3000) {
		x := input{a: a, b: b}
		finer := modelFiner(a, b)
		if is, e := store.Finer(a, b); is != finer || e != api.OK {
			t.Fatalf("Finer of %v: %v %d, want %v", x, is, e, finer)
		}
		wantResult(t, "Join", x, modelJoin(a, b)...)
		wantResult(t, "Meet", x, modelMeet(a, b)...)
		if finer {
			wantResult(t, "Join", x, b...)
			wantResult(t, "Meet", x, a...)
		}
	}
}

// P11.4: what is finer than a division by Meet and coarser by Join, for divisions of more boxes, of which few are finer than one another.
func TestFinerSamples(t *testing.T) {
	for a, b := range pairs(4, 3000) {
		meet, join := modelMeet(a, b), modelJoin(a, b)
		for _, x := range []input{{a: a, b: join}, {a: b, b: join}, {a: meet, b: a}, {a: meet, b: b}, {a: a, b: a}} {
			wantResult(t, "Finer", x, 1)
			if !slices.Equal(x.a, x.b) {
				wantResult(t, "Finer", input{a: x.b, b: x.a}, 0)
			}
		}
	}
}

// finers tells by their numbers which divisions of so many boxes are finer than which.
func finers(boxes int) [][]bool {
	all := everyDivision[boxes]
	table := make([][]bool, len(all))
	for i, a := range all {
		for _, b := range all {
			table[i] = append(table[i], modelFiner(a, b))
		}
	}
	return table
}

// P11.4, P11.11 (F3): of all divisions that are coarser than two Join is finer than all, and of those that are finer than two Meet is coarser than all.
func TestLattice(t *testing.T) {
	for boxes := 1; boxes <= 6; boxes++ {
		all, finer := everyDivision[boxes], finers(boxes)
		for i, a := range all {
			for j, b := range all {
				join, _ := store.Join(a, b)
				meet, _ := store.Meet(a, b)
				over, e := store.Number(join)
				under, f := store.Number(meet)
				if e != api.OK || f != api.OK || !finer[i][over] || !finer[j][over] || !finer[under][i] || !finer[under][j] {
					t.Fatalf("Join of %v, %v: %v; Meet: %v", a, b, join, meet)
				}
				for k := range all {
					if finer[i][k] && finer[j][k] && !finer[over][k] || finer[k][i] && finer[k][j] && !finer[k][under] {
						t.Fatalf("Join of %v, %v: %v; Meet: %v; but %v", a, b, join, meet, all[k])
					}
				}
			}
		}
	}
}

// P11.12: Meet of two flat divisions is flat.
func TestMeetOfFlat(t *testing.T) {
	for boxes := 1; boxes <= 7; boxes++ {
		flat := flatOnes(boxes)
		for _, a := range flat {
			for _, b := range flat {
				meet, _ := store.Meet(a, b)
				if crossings, _, e := store.Arcs(meet); crossings != 0 || e != api.OK {
					t.Fatalf("Meet of %v, %v: %v has %d crossings, %d", a, b, meet, crossings, e)
				}
			}
		}
	}
	for a, b := range flatSamples(3000) {
		meet, _ := store.Meet(a, b)
		if crossings, _, e := store.Arcs(meet); crossings != 0 || e != api.OK {
			t.Fatalf("Meet of %v, %v: %v has %d crossings, %d", a, b, meet, crossings, e)
		}
	}
}

// P11.12: a finer division of a flat one need not be flat.
func TestFinerOfFlat(t *testing.T) {
	wantResult(t, "Finer", input{a: list(0, 1, 0, 1), b: list(0, 0, 0, 0)}, 1)
	wantResult(t, "Arcs", input{a: list(0, 0, 0, 0)}, 0, 0)
	wantResult(t, "Arcs", input{a: list(0, 1, 0, 1)}, 1, 0)
}
