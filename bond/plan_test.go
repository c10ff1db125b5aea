package bond_test

import (
	"testing"

	"vitola/api"
	"vitola/bond"
)

// P10.4, P10.5, P10.8: Opens, Lacks, Smallest, Keys and Thin.
func TestPlan(t *testing.T) {
	for d := range some(4, 800) {
		opens := modelOpens(d)
		for group, want := range opens {
			if is, e := bond.Opens(d.plan(), group); is != want || e != api.OK {
				t.Fatalf("Opens of %v, %d: %v %d", d, group, is, e)
			}
			lacks, e := bond.Lacks(d.plan(), group)
			wantList(t, "Lacks", d, lacks, e, modelLacks(d, group))
		}
		smallest, e := bond.Smallest(d.plan())
		wantList(t, "Smallest", d, smallest, e, modelSmallest(opens))
		keys, e := bond.Keys(d.plan())
		wantList(t, "Keys", d, keys, e, modelKeys(d))
		thin, e := bond.Thin(d.plan())
		wantList(t, "Thin", d, flat(thin.Holders, thin.Locks), e, flat(d.holders, modelThin(d)))
	}
}

// P10.11: with Thin the same groups open, and Make returns it for the rule by which Smallest may open.
func TestThin(t *testing.T) {
	for d := range some(4, 800) {
		thin, _ := bond.Thin(d.plan())
		for group := range modelCount(d.holders) {
			is, _ := bond.Opens(d.plan(), group)
			if also, e := bond.Opens(thin, group); also != is || e != api.OK {
				t.Fatalf("Opens of %v, %d: %v, but of %v: %v %d", d, group, is, thin, also, e)
			}
		}
		smallest, _ := bond.Smallest(d.plan())
		p, e := bond.Make(bond.Rule{Holders: d.holders, Opens: smallest})
		wantList(t, "Make of Smallest", d, flat(p.Holders, p.Locks), e, flat(thin.Holders, thin.Locks))
	}
}

// modelFits returns the smallest group for which a rule and a plan differ.
func modelFits(may, opens []bool) (int, api.Errno) {
	for group := range may {
		if may[group] != opens[group] {
			return group, api.OK
		}
	}
	return 0, api.ErrClash
}

func checkFits(t *testing.T, said, done door) {
	t.Helper()
	want, f := modelFits(modelMay(said), modelOpens(done))
	if group, e := bond.Fits(said.rule(), done.plan()); group != want || e != f {
		t.Fatalf("Fits of %v, %v: %d %d, want %d %d", said, done, group, e, want, f)
	}
}

// P10.7: Fits of any two of up to two holders, and of samples with one another.
func TestFits(t *testing.T) {
	for holders := 1; holders <= 2; holders++ {
		for d := range sets(holders) {
			for other := range sets(holders) {
				checkFits(t, d, other)
			}
		}
	}
	for holders := 1; holders <= 6; holders++ {
		for d := range samples(holders, 30) {
			for other := range samples(holders, 30) {
				checkFits(t, d, other)
			}
		}
	}
}

// P10.7: Fits of a rule and its own locks, and of these with one of them changed, left out or added.
func TestFitsAlmost(t *testing.T) {
	for d := range some(3, 200) {
		locks := modelLocks(d)
		checkFits(t, d, door{d.holders, locks})
		for i := range locks {
			without := append(append(list(), locks[:i]...), locks[i+1:]...)
			checkFits(t, d, door{d.holders, without})
			for holder := range d.holders {
				changed := append(list(), locks...)
				changed[i] ^= 1 << holder
				checkFits(t, d, door{d.holders, changed})
			}
		}
		for lock := range modelCount(d.holders) {
			checkFits(t, d, door{d.holders, locks}.with(lock))
		}
	}
}
