package bond_test

import (
	"math/rand"
	"slices"
	"testing"

	"vitola/api"
	"vitola/bond"
)

// renamed returns groups in which each holder has another number, in ascending order.
func renamed(groups, names []int) []int {
	var all []int
	for _, group := range groups {
		var members []int
		for _, holder := range modelMembers(group) {
			members = append(members, names[holder])
		}
		all = append(all, modelGroup(members...))
	}
	slices.Sort(all)
	return all
}

// namings returns other numbers of so many holders: any two neighbours exchanged, all of them turned around, and one at random.
func namings(random *rand.Rand, holders int) [][]int {
	plain := make([]int, holders)
	for holder := range plain {
		plain[holder] = holder
	}
	turned := slices.Clone(plain)
	slices.Reverse(turned)
	all := [][]int{turned, random.Perm(holders)}
	for i := 1; i < holders; i++ {
		names := slices.Clone(plain)
		names[i-1], names[i] = i, i-1
		all = append(all, names)
	}
	return all
}

// P10.13: if holders get other numbers, the results go with them.
func TestNames(t *testing.T) {
	random := rand.New(rand.NewSource(13))
	for d := range some(3, 200) {
		least, _ := bond.Least(d.rule())
		barred, _ := bond.Barred(d.rule())
		p, _ := bond.Make(d.rule())
		smallest, _ := bond.Smallest(d.plan())
		thin, _ := bond.Thin(d.plan())
		keys, _ := bond.Keys(d.plan())
		for _, names := range namings(random, d.holders) {
			other := door{d.holders, renamed(d.groups, names)}
			l, e := bond.Least(other.rule())
			wantList(t, "Least", other, l, e, renamed(least, names))
			l, e = bond.Barred(other.rule())
			wantList(t, "Barred", other, l, e, renamed(barred, names))
			q, e := bond.Make(other.rule())
			wantList(t, "Make", other, q.Locks, e, renamed(p.Locks, names))
			l, e = bond.Smallest(other.plan())
			wantList(t, "Smallest", other, l, e, renamed(smallest, names))
			q, e = bond.Thin(other.plan())
			wantList(t, "Thin", other, q.Locks, e, renamed(thin.Locks, names))
			want := make([]int, d.holders)
			for holder, name := range names {
				want[name] = keys[holder]
			}
			l, e = bond.Keys(other.plan())
			wantList(t, "Keys", other, l, e, want)
		}
	}
}

// P10.12: what a group may or does, a group in which it lies may or does, too.
func TestMoreHolders(t *testing.T) {
	for d := range some(3, 200) {
		for group := range modelCount(d.holders) {
			may, _ := bond.May(d.rule(), group)
			opens, _ := bond.Opens(d.plan(), group)
			for holder := range d.holders {
				more := group | 1<<holder
				if is, e := bond.May(d.rule(), more); may && !is || e != api.OK {
					t.Fatalf("May of %v: %d may, but not %d: %d", d, group, more, e)
				}
				if is, e := bond.Opens(d.plan(), more); opens && !is || e != api.OK {
					t.Fatalf("Opens of %v: %d opens, but not %d: %d", d, group, more, e)
				}
			}
		}
	}
}

// P10.12: with a group more no group may less, and with a lock more none opens more.
func TestMoreGroups(t *testing.T) {
	for d := range some(3, 60) {
		if len(d.groups) == 64 {
			continue
		}
		for added := range modelCount(d.holders) {
			other := d.with(added)
			for group := range modelCount(d.holders) {
				before, _ := bond.May(d.rule(), group)
				if is, e := bond.May(other.rule(), group); before && !is || e != api.OK {
					t.Fatalf("May of %v, %d: %v; with %d: %v %d", d, group, before, added, is, e)
				}
				before, _ = bond.Opens(d.plan(), group)
				if is, e := bond.Opens(other.plan(), group); is && !before || e != api.OK {
					t.Fatalf("Opens of %v, %d: %v; with %d: %v %d", d, group, before, added, is, e)
				}
			}
		}
	}
}
