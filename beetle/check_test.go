package beetle_test

import (
	"math"
	"slices"
	"testing"

	"vitola/api"
	"vitola/beetle"
)

func TestLimits(t *testing.T) {
	if beetle.MaxSide != 5 {
		t.Error(beetle.MaxSide)
	}
}

// modelCheck looks at the numbers of a store one by one.
func modelCheck(s beetle.Store) api.Errno {
	if s.Rows < 1 || s.Rows > 5 || s.Columns < 1 || s.Columns > 5 {
		return api.ErrRange
	}
	for i, n := range s.Sick {
		if n < 0 || n >= s.Rows*s.Columns {
			return api.ErrNone
		}
		if slices.Contains(s.Sick[:i], n) {
			return api.ErrTwice
		}
	}
	for i, n := range s.Frozen {
		if n < 0 || n >= s.Rows*s.Columns {
			return api.ErrNone
		}
		if slices.Contains(s.Frozen[:i], n) {
			return api.ErrTwice
		}
		if slices.Contains(s.Sick, n) {
			return api.ErrClash
		}
	}
	return api.OK
}

// checkStore compares Check with the model; the other calls of a store return its error, whatever else is wrong.
func checkStore(t *testing.T, s beetle.Store) {
	t.Helper()
	want := modelCheck(s)
	if e := beetle.Check(s); e != want {
		t.Fatalf("Check of %v: %d, want %d", s, e, want)
	}
	if want == api.OK {
		return
	}
	for _, c := range callsOfStores() {
		for _, bale := range list(math.MinInt, -1, 0, 3, 25) {
			wantError(t, c, input{s: s, bale: bale}, want)
			wantError(t, c, input{s: s, bale: bale, bales: list(bale, bale)}, want)
		}
	}
}

// P9.1: numbers of rows and of columns, whatever else is wrong.
func TestRange(t *testing.T) {
	sides := append(extremes(), 0, 1, 2, 3, 4, 5, 6)
	for _, rows := range sides {
		for _, columns := range sides {
			checkStore(t, beetle.Store{Rows: rows, Columns: columns})
			checkStore(t, beetle.Store{Rows: rows, Columns: columns, Sick: list(-1, 0, 0), Frozen: list(0)})
			checkStore(t, beetle.Store{Rows: rows, Columns: columns, Sick: list(0), Frozen: list(0)})
		}
	}
}

// few gives all lists of up to three of some numbers.
func few(numbers ...int) [][]int {
	all := [][]int{nil}
	from := 0
	for range 3 {
		to := len(all)
		for _, l := range all[from:to] {
			for _, n := range numbers {
				all = append(all, append(slices.Clone(l), n))
			}
		}
		from = to
	}
	return all
}

// P9.1: errors of Sick and of Frozen, in their order.
func TestCheck(t *testing.T) {
	lists := few(-1, 0, 1, 3, 4)
	for _, sick := range lists {
		for _, frozen := range lists {
			checkStore(t, beetle.Store{Rows: 2, Columns: 2, Sick: sick, Frozen: frozen})
		}
	}
}

// P9.1: each number at each place, of Sick and of Frozen, in stores of all sides.
func TestCheckAtEachPlace(t *testing.T) {
	for rows, columns := range shapes() {
		n := rows * columns
		for place := range n {
			for _, wrong := range append(extremes(), 0, n/2, n-1, n, n+1) {
				all := make([]int, n)
				for i := range all {
					all[i] = n - 1 - i
				}
				checkStore(t, beetle.Store{Rows: rows, Columns: columns, Sick: all})
				checkStore(t, beetle.Store{Rows: rows, Columns: columns, Frozen: all})
				checkStore(t, beetle.Store{Rows: rows, Columns: columns, Sick: all[:place], Frozen: all[place:]})
				all[place] = wrong
				checkStore(t, beetle.Store{Rows: rows, Columns: columns, Sick: all})
				checkStore(t, beetle.Store{Rows: rows, Columns: columns, Frozen: all})
				checkStore(t, beetle.Store{Rows: rows, Columns: columns, Sick: all[n/2:], Frozen: all[:n/2]})
			}
		}
	}
	many := make([]int, 100_000)
	checkStore(t, beetle.Store{Rows: 5, Columns: 5, Sick: many})
	checkStore(t, beetle.Store{Rows: 5, Columns: 5, Frozen: many})
}

// P9.1: all stores within the bounds are accepted.
func TestBounds(t *testing.T) {
	for x := range some(6, 40) {
		if e := beetle.Check(x.store()); e != api.OK {
			t.Fatalf("Check of %v: %d", x, e)
		}
	}
}

// P9.4: errors of bales, in their order.
func TestErrorOfProves(t *testing.T) {
	for _, l := range few(math.MinInt, -1, 0, 1, 5, 6, 1<<32) {
		want, before := api.OK, -1
		for _, n := range l {
			if n < 0 || n >= 6 {
				want = api.ErrNone
				break
			}
			if n <= before {
				want = api.ErrOrder
				break
			}
			before = n
		}
		for _, bales := range []string{"cccccc", "ssssss", "csfccc"} {
			x := state{2, 3, bales}
			f := want
			if f == api.OK && !modelSafe(x, l) {
				f = api.ErrProof
			}
			if e := beetle.Proves(x.store(), l); e != f {
				t.Fatalf("Proves of %v, %v: %d, want %d", x, l, e, f)
			}
		}
	}
}

// P9.5: a frozen bale is a clash, wherever it is and even if no bale is sick.
func TestErrorOfBlocks(t *testing.T) {
	for x := range some(6, 20) {
		blocks, e := beetle.Blocks(x.store())
		if want := len(x.with('f')) > 0; want != (e == api.ErrClash) || want && len(blocks) > 0 || !want && e != api.OK {
			t.Fatalf("Blocks of %v: %v %d", x, blocks, e)
		}
	}
}

// P9.6: rows and columns that are out of range.
func TestRangeOfSides(t *testing.T) {
	for _, c := range callsOfSides() {
		for _, wrong := range append(extremes(), 0, 6, 7) {
			for _, other := range append(extremes(), 0, 1, 2, 3, 4, 5, 6) {
				wantError(t, c, input{rows: wrong, columns: other}, api.ErrRange)
				wantError(t, c, input{rows: other, columns: wrong}, api.ErrRange)
			}
		}
	}
}

// P9.7: what is no bale, before anything else.
func TestNoBale(t *testing.T) {
	for rows, columns := range shapes() {
		n := rows * columns
		all := make([]int, n)
		for i := range all {
			all[i] = i
		}
		for _, s := range []beetle.Store{{Rows: rows, Columns: columns}, {Rows: rows, Columns: columns, Sick: all}, {Rows: rows, Columns: columns, Frozen: all}} {
			for _, bale := range append(extremes(), n, n+1) {
				if l, e := beetle.Keep(s, bale); len(l) > 0 || e != api.ErrNone {
					t.Fatalf("Keep of %v, %d: %v %d", s, bale, l, e)
				}
			}
		}
	}
}

// R3: a nil list and an empty one are equal.
func TestNil(t *testing.T) {
	for _, c := range callsOfStores() {
		for rows, columns := range shapes() {
			l, e := c.run(input{s: beetle.Store{Rows: rows, Columns: columns}})
			other, f := c.run(input{s: beetle.Store{Rows: rows, Columns: columns, Sick: list(), Frozen: list()}, bales: list()})
			if !slices.Equal(l, other) || e != api.OK || f != api.OK {
				t.Errorf("%s of %d, %d: %v %d, %v %d", c.name, rows, columns, l, e, other, f)
			}
		}
	}
}

// P1: each call ends with the extreme numbers, and has the same result the second time.
func TestSameAgain(t *testing.T) {
	numbers := append(extremes(), 0, 1, 4, 5, 6, 24, 25)
	for _, c := range calls() {
		for _, n := range numbers {
			for _, m := range numbers {
				checkAgain(t, c, input{s: beetle.Store{Rows: n, Columns: m, Sick: list(n, m)}, bales: list(n, m), bale: n, rows: n, columns: m})
				checkAgain(t, c, input{s: beetle.Store{Rows: 5, Columns: 5, Sick: list(n), Frozen: list(m)}, bales: list(m), bale: m, rows: m, columns: 5})
				checkAgain(t, c, input{s: beetle.Store{Rows: 3, Columns: 5, Sick: list(2, 6, 14), Frozen: list(3)}, bales: list(n, m), bale: m, rows: 4, columns: n})
			}
		}
	}
}

func checkAgain(t *testing.T, c call, x input) {
	t.Helper()
	l, e := c.run(x)
	if other, f := c.run(x); !slices.Equal(l, other) || e != f {
		t.Fatalf("%s of %v: %v %d, then %v %d", c.name, x, l, e, other, f)
	}
	if e != api.OK && len(l) != 0 {
		t.Fatalf("%s of %v: %v with the error %d", c.name, x, l, e)
	}
}
