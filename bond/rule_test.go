package bond_test

import (
	"slices"
	"testing"

	"vitola/api"
	"vitola/bond"
)

// P10.1, P10.2, P10.6: May, Least, Barred and Make.
func TestRule(t *testing.T) {
	for d := range some(4, 800) {
		may := modelMay(d)
		for group, want := range may {
			if is, e := bond.May(d.rule(), group); is != want || e != api.OK {
				t.Fatalf("May of %v, %d: %v %d", d, group, is, e)
			}
		}
		least, e := bond.Least(d.rule())
		wantList(t, "Least", d, least, e, modelSmallest(may))
		barred, e := bond.Barred(d.rule())
		wantList(t, "Barred", d, barred, e, modelLargest(may))
		p, e := bond.Make(d.rule())
		wantList(t, "Make", d, flat(p.Holders, p.Locks), e, flat(d.holders, modelLocks(d)))
	}
}

// P10.3: by Any, just the groups with so many holders may open, and those of just so many are in Opens.
func TestAny(t *testing.T) {
	for holders := 1; holders <= 6; holders++ {
		for many := 0; many <= holders; many++ {
			var want []int
			for group := range modelCount(holders) {
				if len(modelMembers(group)) == many {
					want = append(want, group)
				}
			}
			r, e := bond.Any(holders, many)
			wantList(t, "Any", list(holders, many), flat(r.Holders, r.Opens), e, flat(holders, want))
			for group := range modelCount(holders) {
				if is, e := bond.May(r, group); is != (len(modelMembers(group)) >= many) || e != api.OK {
					t.Errorf("May of Any of %d, %d, %d: %v %d", holders, many, group, is, e)
				}
			}
		}
	}
}

// chosen counts the ways to choose so many of some, one after the other.
func chosen(of, many int) int {
	if many == 0 {
		return 1
	}
	if of == 0 {
		return 0
	}
	return chosen(of-1, many-1) + chosen(of-1, many)
}

// P10.10: how many locks Any needs, and how many keys each one has.
func TestLocksOfAny(t *testing.T) {
	for holders := 1; holders <= 6; holders++ {
		for many := 1; many <= holders; many++ {
			r, _ := bond.Any(holders, many)
			p, e := bond.Make(r)
			if len(p.Locks) != chosen(holders, many-1) || e != api.OK {
				t.Errorf("Make of Any of %d, %d: %v %d", holders, many, p, e)
			}
			for _, lock := range p.Locks {
				if len(modelMembers(lock)) != holders-many+1 {
					t.Errorf("Make of Any of %d, %d: %v", holders, many, p)
				}
			}
		}
	}
}

// fewestLocks finds, for each way in which the groups of so many holders open, the fewest locks of all plans.
func fewestLocks(t *testing.T, holders int) map[string]int {
	t.Helper()
	fewest := map[string]int{}
	for d := range sets(holders) {
		way := ""
		for group := range modelCount(holders) {
			is, e := bond.Opens(d.plan(), group)
			if e != api.OK {
				t.Fatalf("Opens of %v, %d: %d", d, group, e)
			}
			way += signOf(is)
		}
		if many, ok := fewest[way]; !ok || many > len(d.groups) {
			fewest[way] = len(d.groups)
		}
	}
	return fewest
}

func signOf(is bool) string {
	if is {
		return "1"
	}
	return "0"
}

// P10.9: of all plans of up to four holders that fit a rule none has fewer locks than Make.
func TestFewest(t *testing.T) {
	for holders := 1; holders <= 4; holders++ {
		fewest := fewestLocks(t, holders)
		for d := range sets(holders) {
			way := ""
			for _, is := range modelMay(d) {
				way += signOf(is)
			}
			p, _ := bond.Make(d.rule())
			if many, ok := fewest[way]; !ok || many != len(p.Locks) {
				t.Fatalf("Make of %v: %v, but %d locks are enough: %v", d, p, many, ok)
			}
		}
	}
}

// P10.9: Make fits its rule; each group of Barred lacks a lock, and two of them together may open.
func TestWhyFewest(t *testing.T) {
	for d := range some(3, 800) {
		p, _ := bond.Make(d.rule())
		if group, e := bond.Fits(d.rule(), p); group != 0 || e != api.ErrClash {
			t.Fatalf("Fits of %v, %v: %d %d", d, p, group, e)
		}
		barred, _ := bond.Barred(d.rule())
		if len(barred) != len(p.Locks) {
			t.Fatalf("Barred of %v: %v, but Make: %v", d, barred, p)
		}
		for i, group := range barred {
			if lacks, e := bond.Lacks(p, group); len(lacks) != 1 || e != api.OK {
				t.Fatalf("Lacks of %v, %d: %v %d", p, group, lacks, e)
			}
			for _, other := range barred[:i] {
				both := append(modelMembers(group), modelMembers(other)...)
				slices.Sort(both)
				if is, e := bond.May(d.rule(), modelGroup(slices.Compact(both)...)); !is || e != api.OK {
					t.Fatalf("May of %v, %d and %d: %v %d", d, group, other, is, e)
				}
			}
		}
	}
}

// P10.11: Smallest of Make is Least, and the locks of a rule, as a rule, have the Least of it as locks.
func TestThereAndBack(t *testing.T) {
	for d := range some(4, 800) {
		least, _ := bond.Least(d.rule())
		p, _ := bond.Make(d.rule())
		smallest, e := bond.Smallest(p)
		wantList(t, "Smallest", p, smallest, e, least)
		turned := bond.Rule{Holders: d.holders, Opens: p.Locks}
		locks, e := bond.Least(turned)
		wantList(t, "Least", turned, locks, e, p.Locks)
		q, e := bond.Make(turned)
		wantList(t, "Make", turned, flat(q.Holders, q.Locks), e, flat(d.holders, least))
	}
}
