package beetle_test

import (
	"math/rand"
	"slices"
	"testing"

	"vitola/api"
	"vitola/beetle"
)

// A view is another way to look at a store: mirrored in one or two ways, and its rows made columns.
type view struct {
	down, across, swapped bool
}

func views() []view {
	var all []view
	for i := range 8 {
		all = append(all, view{i&1 > 0, i&2 > 0, i&4 > 0})
	}
	return all
}

// place returns where a row and a column are seen.
func (v view) place(x state, row, column int) (int, int) {
	if v.down {
		row = x.rows - 1 - row
	}
	if v.across {
		column = x.columns - 1 - column
	}
	if v.swapped {
		return column, row
	}
	return row, column
}

// number returns the number by which a bale is seen.
func (v view) number(x state, bale int) int {
	row, column := v.place(x, bale/x.columns, bale%x.columns)
	if v.swapped {
		return row*x.rows + column
	}
	return row*x.columns + column
}

// of returns what is seen of a state.
func (v view) of(x state) state {
	bales := make([]byte, len(x.bales))
	for n := range bales {
		bales[v.number(x, n)] = x.bales[n]
	}
	if v.swapped {
		return state{x.columns, x.rows, string(bales)}
	}
	return state{x.rows, x.columns, string(bales)}
}

// numbers returns the numbers by which bales are seen, in ascending order.
func (v view) numbers(x state, bales []int) []int {
	var seen []int
	for _, n := range bales {
		seen = append(seen, v.number(x, n))
	}
	slices.Sort(seen)
	return seen
}

// blocks returns how blocks are seen.
func (v view) blocks(x state, blocks [][4]int) []int {
	var seen [][4]int
	for _, b := range blocks {
		r, c := v.place(x, b[0], b[1])
		s, d := v.place(x, b[2], b[3])
		seen = append(seen, [4]int{min(r, s), min(c, d), max(r, s), max(c, d)})
	}
	slices.SortFunc(seen, func(a, b [4]int) int { return slices.Compare(a[:], b[:]) })
	return flat(seen)
}

// P9.13: what is seen of a store has the days, the outline, the blocks and the idle bales that are seen.
func TestViews(t *testing.T) {
	for x := range some(8, 60) {
		days := daysOf(t, x)
		first, last, _ := beetle.Outline(x.store())
		idle, _ := beetle.Idle(x.store())
		blocks, e := beetle.Blocks(x.store())
		for _, v := range views() {
			y := v.of(x)
			want := make([]int, len(days))
			for n, day := range days {
				want[v.number(x, n)] = day
			}
			wantList(t, "Days", y, daysOf(t, y), api.OK, want)
			l, m, f := beetle.Outline(y.store())
			wantList(t, "Outline", y, list(l, m), f, list(first, last))
			other, f := beetle.Idle(y.store())
			wantList(t, "Idle", y, other, f, v.numbers(x, idle))
			seen, f := beetle.Blocks(y.store())
			if !slices.Equal(flat(seen), v.blocks(x, blocks)) || f != e {
				t.Fatalf("Blocks of %v: %v %d, of %v: %v %d", x, blocks, e, y, seen, f)
			}
		}
	}
}

// P9.13: so it is with Proves, and Keep needs as many bales; the first ones may be others.
func TestViewsOfSafe(t *testing.T) {
	for x := range some(6, 20) {
		for _, v := range views() {
			y := v.of(x)
			for bale := range x.bales {
				l, e := beetle.Keep(x.store(), bale)
				m, f := beetle.Keep(y.store(), v.number(x, bale))
				if len(l) != len(m) || e != f {
					t.Fatalf("Keep of %v, %d: %v %d, of %v: %v %d", x, bale, l, e, y, m, f)
				}
				rest := slices.DeleteFunc(modelRest(x), func(n int) bool { return n == bale })
				if e, f := beetle.Proves(x.store(), rest), beetle.Proves(y.store(), v.numbers(x, rest)); e != f {
					t.Fatalf("Proves of %v, %v: %d, of %v: %d", x, rest, e, y, f)
				}
			}
		}
	}
	for rows, columns := range shapes() {
		n, e := beetle.Least(rows, columns)
		m, f := beetle.Least(columns, rows)
		if n != m || e != api.OK || f != api.OK {
			t.Errorf("Least of %d, %d: %d %d, and %d %d", rows, columns, n, e, m, f)
		}
	}
}

// P9.13: the order of Sick and of Frozen does not matter.
func TestOrder(t *testing.T) {
	random := rand.New(rand.NewSource(13))
	for x := range some(4, 60) {
		s, other := x.store(), x.store()
		random.Shuffle(len(other.Sick), func(i, j int) { other.Sick[i], other.Sick[j] = other.Sick[j], other.Sick[i] })
		slices.Reverse(other.Frozen)
		rest := modelRest(x)
		for _, c := range callsOfStores() {
			bale := random.Intn(len(x.bales))
			l, e := c.run(input{s: s, bale: bale, bales: rest})
			m, f := c.run(input{s: other, bale: bale, bales: rest})
			if !slices.Equal(l, m) || e != f {
				t.Fatalf("%s of %v: %v %d, of %v: %v %d", c.name, s, l, e, other, m, f)
			}
		}
	}
}

// P9.14: with one bale more in Sick, or one less in Frozen, no bale gets beetles later or not at all.
func TestMore(t *testing.T) {
	for x := range some(8, 100) {
		days := daysOf(t, x)
		var others []state
		for _, n := range x.with('c') {
			others = append(others, x.but('s', n))
		}
		for _, n := range x.with('f') {
			others = append(others, x.but('c', n), x.but('s', n))
		}
		for _, y := range others {
			for n, day := range daysOf(t, y) {
				if days[n] >= 0 && (day < 0 || day > days[n]) {
					t.Fatalf("bale %d gets beetles on day %d in %v, and on %d in %v", n, days[n], x, day, y)
				}
			}
		}
	}
}
