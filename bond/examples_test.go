package bond_test

import (
	"testing"

	"vitola/api"
	"vitola/bond"
)

// two and pairs are T and R of the table of examples of the chapter.
func two() door { return door{3, list(3, 5, 6)} }

func pairs() door { return door{4, list(3, 12)} }

func TestExamplesOfAny(t *testing.T) {
	r, e := bond.Any(3, 2)
	wantList(t, "Any", "3, 2", flat(r.Holders, r.Opens), e, list(3, 3, 5, 6))
	r, e = bond.Any(4, 0)
	wantList(t, "Any", "4, 0", flat(r.Holders, r.Opens), e, list(4, 0))
	if _, e := bond.Any(4, 5); e != api.ErrRange {
		t.Errorf("Any of 4, 5: %d", e)
	}
}

func TestExamplesOfRules(t *testing.T) {
	for _, x := range []struct {
		group int
		want  bool
		e     api.Errno
	}{{4, false, api.OK}, {7, true, api.OK}, {8, false, api.ErrNone}} {
		if is, e := bond.May(two().rule(), x.group); is != x.want || e != x.e {
			t.Errorf("May of T, %d: %v %d", x.group, is, e)
		}
	}
	least, e := bond.Least(two().rule())
	wantList(t, "Least", "T", least, e, list(3, 5, 6))
	for _, x := range []struct {
		of   door
		want []int
	}{{two(), list(1, 2, 4)}, {pairs(), list(5, 6, 9, 10)}, {door{2, nil}, list(3)}} {
		barred, e := bond.Barred(x.of.rule())
		wantList(t, "Barred", x.of, barred, e, x.want)
	}
}

func TestExamplesOfMake(t *testing.T) {
	for _, x := range []struct {
		of   door
		want []int
	}{{two(), list(3, 5, 6)}, {pairs(), list(5, 6, 9, 10)}, {door{2, nil}, list(0)}, {door{4, list(0)}, nil}} {
		p, e := bond.Make(x.of.rule())
		wantList(t, "Make", x.of, flat(p.Holders, p.Locks), e, flat(x.of.holders, x.want))
	}
}

func TestExamplesOfFits(t *testing.T) {
	for _, x := range []struct {
		p     door
		group int
		e     api.Errno
	}{{door{3, list(7)}, 1, api.OK}, {door{3, list(3, 5, 6)}, 0, api.ErrClash}, {door{2, nil}, 0, api.ErrShape}} {
		if group, e := bond.Fits(two().rule(), x.p.plan()); group != x.group || e != x.e {
			t.Errorf("Fits of T, %v: %d %d", x.p, group, e)
		}
	}
}

func TestExamplesOfPlans(t *testing.T) {
	for group, want := range map[int]bool{1: false, 3: true} {
		if is, e := bond.Opens(two().plan(), group); is != want || e != api.OK {
			t.Errorf("Opens of %d: %v %d", group, is, e)
		}
	}
	for group, want := range map[int][]int{1: list(2), 0: list(0, 1, 2), 7: nil} {
		lacks, e := bond.Lacks(two().plan(), group)
		wantList(t, "Lacks", group, lacks, e, want)
	}
	for _, x := range []struct {
		of   door
		want []int
	}{{two(), list(3, 5, 6)}, {door{3, list(0)}, nil}, {door{3, nil}, list(0)}} {
		smallest, e := bond.Smallest(x.of.plan())
		wantList(t, "Smallest", x.of, smallest, e, x.want)
	}
	keys, e := bond.Keys(bond.Plan{Holders: 3, Locks: list(3, 5, 7)})
	wantList(t, "Keys", "3, 5, 7", keys, e, list(3, 2, 2))
	for _, x := range []struct {
		of   door
		want []int
	}{{door{3, list(7, 3, 5, 3, 6)}, list(3, 5, 6)}, {door{3, list(3, 0)}, list(0)}} {
		thin, e := bond.Thin(x.of.plan())
		wantList(t, "Thin", x.of, flat(thin.Holders, thin.Locks), e, flat(3, x.want))
	}
}
