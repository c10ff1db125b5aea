package beetle_test

import (
	"slices"
	"testing"

	"vitola/api"
	"vitola/beetle"
)

// spoil overwrites a list and all the memory behind it.
func spoil[T any](l []T, with T) {
	l = l[:cap(l)]
	for i := range l {
		l[i] = with
	}
}

// R4: results share no memory with one another, and what becomes of one changes no later one.
func TestMemory(t *testing.T) {
	for x := range some(4, 20) {
		for _, c := range calls() {
			for _, bale := range list(0, len(x.bales)/2) {
				in := input{s: x.store(), bale: bale, rows: x.rows, columns: x.columns}
				l, e := c.run(in)
				first := slices.Clone(l)
				again, _ := c.run(in)
				spoil(l, 77)
				if later, f := c.run(in); !slices.Equal(again, first) || !slices.Equal(later, first) || e != f {
					t.Fatalf("%s of %v: %v %d, and later %v, %v %d", c.name, x, first, e, again, later, f)
				}
			}
		}
	}
}

// R4: and so it is with blocks.
func TestMemoryOfBlocks(t *testing.T) {
	s := beetle.Store{Rows: 5, Columns: 1, Sick: list(0, 2, 4)}
	blocks, _ := beetle.Blocks(s)
	spoil(blocks, [4]int{7, 7, 7, 7})
	again, e := beetle.Blocks(s)
	wantList(t, "Blocks", s, flat(again), e, list(0, 0, 4, 0))
}

// longer returns a copy of a list that goes on behind its end.
func longer(l []int) []int {
	return append(slices.Clone(l), 5, 6, 7)[:len(l)]
}

func whole(l []int) []int { return slices.Clone(l[:cap(l)]) }

// R4: arguments stay as they are, with all the memory behind them, and what becomes of them changes no result.
func TestArguments(t *testing.T) {
	for x := range some(4, 20) {
		for _, c := range callsOfStores() {
			s := x.store()
			slices.Reverse(s.Sick)
			slices.Reverse(s.Frozen)
			in := input{s: s, bales: longer(modelRest(x)), bale: len(x.bales) / 2}
			in.s.Sick, in.s.Frozen = longer(s.Sick), longer(s.Frozen)
			sick, frozen, bales := whole(in.s.Sick), whole(in.s.Frozen), whole(in.bales)
			l, e := c.run(in)
			if !slices.Equal(sick, whole(in.s.Sick)) || !slices.Equal(frozen, whole(in.s.Frozen)) || !slices.Equal(bales, whole(in.bales)) {
				t.Fatalf("%s of %v changed its arguments: %v", c.name, x, in)
			}
			result := slices.Clone(l)
			spoil(in.s.Sick, 77)
			spoil(in.s.Frozen, 77)
			spoil(in.bales, 77)
			if !slices.Equal(l, result) {
				t.Fatalf("%s of %v: %v %d, and with another argument %v", c.name, x, result, e, l)
			}
		}
	}
}

// R4: a result, changed, is an argument like any other.
func TestChangedResult(t *testing.T) {
	plant, _ := beetle.Plant(3, 3)
	plant[1] = 4
	spread, e := beetle.Spread(beetle.Store{Rows: 3, Columns: 3, Sick: plant})
	wantList(t, "Spread", plant, spread, e, list(0, 1, 3, 4, 6, 7))
	if again, e := beetle.Plant(3, 3); !slices.Equal(again, list(0, 2, 6)) || e != api.OK {
		t.Errorf("Plant of 3, 3: %v %d", again, e)
	}
}
