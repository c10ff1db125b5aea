package blend_test

import (
	"slices"
	"testing"

	"vitola/api"
	"vitola/blend"
)

// others returns all leaves that are not in a blend.
func others(leaves int, b []int) []int {
	var found []int
	for leaf := range leaves {
		if !slices.Contains(b, leaf) {
			found = append(found, leaf)
		}
	}
	return found
}

// P4.4: Away and Way of all two blends of the same size; P4.10: Way is as long as Away says, by single exchanges.
func TestAwayAndWay(t *testing.T) {
	for leaves, size := range sizes() {
		all := blends(leaves, size)
		for _, a := range all {
			for _, b := range all {
				n, e := blend.Away(leaves, a, b)
				if n != modelAway(a, b) || e != api.OK {
					t.Fatalf("Away of %d: %v, %v: %d %d", leaves, a, b, n, e)
				}
				way, e := blend.Way(leaves, a, b)
				if e != api.OK || !same(way, modelWay(a, b)) {
					t.Fatalf("Way of %d: %v, %v: %v %d", leaves, a, b, way, e)
				}
				if len(way) != n+1 {
					t.Fatalf("Way of %d: %v, %v: %v, but Away is %d", leaves, a, b, way, n)
				}
			}
		}
	}
}

// P4.10: the blends of a way are blends, from a to b, each with a distance of 1 from the next one.
func TestSteps(t *testing.T) {
	next := dice(3)
	for leaves, size := range sizes() {
		all := blends(leaves, size)
		for range 40 {
			a, b := all[next(len(all))], all[next(len(all))]
			way, _ := blend.Way(leaves, a, b)
			if !slices.Equal(way[0], a) || !slices.Equal(way[len(way)-1], b) {
				t.Fatalf("Way of %d: %v, %v: %v", leaves, a, b, way)
			}
			for i := range len(way) - 1 {
				if n, e := blend.Away(leaves, way[i], way[i+1]); n != 1 || e != api.OK {
					t.Fatalf("Away of %d: %v, %v: %d %d", leaves, way[i], way[i+1], n, e)
				}
			}
		}
	}
}

// fewest returns, for each blend of a size, the fewest exchanges that lead to it from a.
func fewest(leaves int, a []int) map[string]int {
	far := map[string]int{key(a): 0}
	for next := [][]int{a}; len(next) > 0; next = next[1:] {
		for _, in := range others(leaves, next[0]) {
			for i := range next[0] {
				b := slices.Clone(next[0])
				b[i] = in
				slices.Sort(b)
				if _, known := far[key(b)]; !known {
					far[key(b)] = far[key(next[0])] + 1
					next = append(next, b)
				}
			}
		}
	}
	return far
}

// key returns a list of small numbers as a string.
func key(l []int) string {
	var text []byte
	for _, n := range l {
		text = append(text, byte(n))
	}
	return string(text)
}

// P4.10: no fewer exchanges lead from one blend to another one.
func TestNoShorterWay(t *testing.T) {
	for leaves, size := range sizes() {
		if leaves > 7 {
			break
		}
		for _, a := range blends(leaves, size) {
			far := fewest(leaves, a)
			for _, b := range blends(leaves, size) {
				if n, e := blend.Away(leaves, a, b); n != far[key(b)] || e != api.OK {
					t.Fatalf("Away of %d: %v, %v: %d %d, want %d", leaves, a, b, n, e, far[key(b)])
				}
			}
		}
	}
}

// P4.10: the distance is that of the blends of all other leaves, and the same there and back.
func TestOtherLeaves(t *testing.T) {
	for leaves, size := range sizes() {
		all := blends(leaves, size)
		for _, a := range all {
			for _, b := range all {
				n, _ := blend.Away(leaves, a, b)
				m, e := blend.Away(leaves, others(leaves, a), others(leaves, b))
				if n != m || e != api.OK {
					t.Fatalf("Away of %d: %v, %v: %d, of the other leaves %d %d", leaves, a, b, n, m, e)
				}
				if m, _ := blend.Away(leaves, b, a); n != m {
					t.Fatalf("Away of %d: %v, %v: %d, back %d", leaves, a, b, n, m)
				}
				if (n == 0) != slices.Equal(a, b) {
					t.Fatalf("Away of %d: %v, %v: %d", leaves, a, b, n)
				}
			}
		}
	}
}

// P4.10: by way of a third blend it is not nearer.
func TestByWayOfAThird(t *testing.T) {
	for leaves, size := range sizes() {
		all := blends(leaves, size)
		if len(all) > 40 {
			continue
		}
		for _, a := range all {
			for _, b := range all {
				straight, _ := blend.Away(leaves, a, b)
				for _, c := range all {
					first, _ := blend.Away(leaves, a, c)
					second, _ := blend.Away(leaves, c, b)
					if straight > first+second {
						t.Fatalf("Away of %d: %v, %v: %d, by way of %v %d and %d", leaves, a, b, straight, c, first, second)
					}
				}
			}
		}
	}
}
