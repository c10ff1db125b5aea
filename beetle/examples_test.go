package beetle_test

import (
	"testing"

	"vitola/api"
	"vitola/beetle"
)

// a and b are the stores of the table of examples of the chapter.
func a() beetle.Store { return three(0, 4, 8) }

func b() beetle.Store { return three(0, 1) }

// three returns a store of three rows and three columns.
func three(sick ...int) beetle.Store {
	return beetle.Store{Rows: 3, Columns: 3, Sick: sick}
}

// frozen returns a store with frozen bales.
func frozen(s beetle.Store, bales ...int) beetle.Store {
	s.Frozen = bales
	return s
}

func TestExamplesOfSpread(t *testing.T) {
	days, e := beetle.Days(a())
	wantList(t, "Days", "A", days, e, list(0, 1, 2, 1, 0, 1, 2, 1, 0))
	days, e = beetle.Days(b())
	wantList(t, "Days", "B", days, e, list(0, 0, -1, -1, -1, -1, -1, -1, -1))
	spread, e := beetle.Spread(frozen(a(), 1, 3))
	wantList(t, "Spread", "A with 1 and 3 frozen", spread, e, list(0, 4, 5, 7, 8))
	first, last, e := beetle.Outline(a())
	wantList(t, "Outline", "A", list(first, last), e, list(12, 12))
	first, last, e = beetle.Outline(b())
	wantList(t, "Outline", "B", list(first, last), e, list(6, 6))
	for _, x := range []struct {
		s    beetle.Store
		want []int
	}{{a(), list(0, 0, 2, 2)}, {b(), list(0, 0, 0, 1)}, {three(0, 2, 4), list(0, 0, 1, 2)}} {
		blocks, e := beetle.Blocks(x.s)
		wantList(t, "Blocks", x.s, flat(blocks), e, x.want)
	}
	for _, x := range []struct {
		s    beetle.Store
		want []int
	}{{a(), nil}, {beetle.Store{Rows: 2, Columns: 2, Sick: list(0, 1, 3)}, list(1)}} {
		idle, e := beetle.Idle(x.s)
		wantList(t, "Idle", x.s, idle, e, x.want)
	}
}

func TestExamplesOfProves(t *testing.T) {
	for _, x := range []struct {
		s     beetle.Store
		bales []int
		want  api.Errno
	}{{b(), list(3, 4, 5, 6, 7, 8), api.OK}, {b(), list(2, 5, 8), api.OK}, {b(), list(2, 3), api.ErrProof}, {b(), list(2, 2), api.ErrOrder}, {a(), list(2), api.ErrProof}} {
		if e := beetle.Proves(x.s, x.bales); e != x.want {
			t.Errorf("Proves of %v: %d", x, e)
		}
	}
}

func TestExamplesOfPlant(t *testing.T) {
	for _, x := range [][3]int{{3, 3, 3}, {1, 4, 3}, {5, 5, 5}} {
		n, e := beetle.Least(x[0], x[1])
		wantList(t, "Least", x, list(n), e, x[2:])
	}
	plant, e := beetle.Plant(3, 3)
	wantList(t, "Plant", "3, 3", plant, e, list(0, 2, 6))
	plant, e = beetle.Plant(1, 4)
	wantList(t, "Plant", "1, 4", plant, e, list(0, 1, 3))
}

func TestExamplesOfKeep(t *testing.T) {
	for _, x := range []struct {
		s    beetle.Store
		bale int
		want []int
		e    api.Errno
	}{{a(), 2, list(1), api.OK}, {a(), 6, list(3), api.OK}, {a(), 1, nil, api.ErrLost}, {a(), 4, nil, api.ErrLost}, {b(), 2, nil, api.OK}} {
		l, e := beetle.Keep(x.s, x.bale)
		if e != x.e {
			t.Errorf("Keep of %v: %d", x, e)
			continue
		}
		wantList(t, "Keep", x, l, api.OK, x.want)
	}
}

func TestExamplesOfCheck(t *testing.T) {
	for _, x := range []struct {
		s    beetle.Store
		want api.Errno
	}{{beetle.Store{Rows: 6, Columns: 1}, api.ErrRange}, {beetle.Store{Rows: 2, Columns: 2, Sick: list(4)}, api.ErrNone}, {beetle.Store{Rows: 2, Columns: 2, Sick: list(0, 0)}, api.ErrTwice}, {beetle.Store{Rows: 2, Columns: 2, Sick: list(0), Frozen: list(0)}, api.ErrClash}} {
		if e := beetle.Check(x.s); e != x.want {
			t.Errorf("Check of %v: %d, want %d", x.s, e, x.want)
		}
	}
}
