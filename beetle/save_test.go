package beetle_test

import (
	"slices"
	"testing"

	"vitola/api"
	"vitola/beetle"
)

// checkProves compares Proves with the definition; what is safe has no bale with beetles.
func checkProves(t *testing.T, x state, bales, spread []int) {
	t.Helper()
	want := api.ErrProof
	if modelSafe(x, bales) {
		want = api.OK
	}
	e := beetle.Proves(x.store(), bales)
	if e != want {
		t.Fatalf("Proves of %v, %v: %d, want %d", x, bales, e, want)
	}
	for _, n := range bales {
		if e == api.OK && slices.Contains(spread, n) {
			t.Fatalf("Proves of %v, %v: OK, but %d gets beetles", x, bales, n)
		}
	}
}

// P9.4, P9.10: Proves of all bales that there can be, in small stores.
func TestProves(t *testing.T) {
	for x := range some(6, 0) {
		all := make([]int, len(x.bales))
		for n := range all {
			all[n] = n
		}
		spread, _ := beetle.Spread(x.store())
		for many := range len(all) + 1 {
			for bales := range listsOf(all, many) {
				checkProves(t, x, bales, spread)
			}
		}
	}
}

// P9.4, P9.10: Proves of what gets no beetles, and of those bales with one more and with one less.
func TestProvesOfRest(t *testing.T) {
	for x := range some(9, 300) {
		spread, e := beetle.Spread(x.store())
		if e != api.OK {
			t.Fatalf("Spread of %v: %d", x, e)
		}
		rest := modelRest(x)
		if e := beetle.Proves(x.store(), rest); e != api.OK {
			t.Fatalf("Proves of %v, %v: %d", x, rest, e)
		}
		checkProves(t, x, rest, spread)
		for i := range rest {
			checkProves(t, x, slices.Delete(slices.Clone(rest), i, i+1), spread)
			checkProves(t, x, rest[i:i+1], spread)
		}
		for _, n := range spread {
			more := append(slices.Clone(rest), n)
			slices.Sort(more)
			checkProves(t, x, more, spread)
			if e := beetle.Proves(x.store(), more); e != api.ErrProof {
				t.Fatalf("Proves of %v, %v: %d", x, more, e)
			}
		}
	}
}

// checkKeep compares Keep with the model; with its bales frozen, too, the bale gets no beetles.
func checkKeep(t *testing.T, x state, bale int) {
	t.Helper()
	want, f := modelKeep(x, bale)
	l, e := beetle.Keep(x.store(), bale)
	if !slices.Equal(l, want) || e != f {
		t.Fatalf("Keep of %v, %d: %v %d, want %v %d", x, bale, l, e, want, f)
	}
	if e == api.OK && daysOf(t, x.but('f', l...))[bale] >= 0 {
		t.Fatalf("Keep of %v, %d: %v, but it gets beetles", x, bale, l)
	}
}

// P9.7: Keep of all bales, in small stores and in samples of the others.
func TestKeep(t *testing.T) {
	for x := range some(8, 200) {
		for bale := range x.bales {
			checkKeep(t, x, bale)
		}
	}
}

// P9.7: some bales are kept only by three others.
func TestKeepByThree(t *testing.T) {
	x := state{5, 5, "scscs" + "ccccc" + "sccsc" + "ccccc" + "scscs"}
	seen := map[int]bool{}
	for bale := range x.bales {
		checkKeep(t, x, bale)
		l, _ := beetle.Keep(x.store(), bale)
		seen[len(l)] = true
	}
	if !seen[2] || !seen[3] || seen[4] {
		t.Errorf("Keep of %v: numbers of bales %v", x, seen)
	}
}
