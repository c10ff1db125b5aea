package bond_test

import (
	"slices"
	"testing"

	"vitola/api"
	"vitola/bond"
)

// spoil overwrites a list and all the memory behind it.
func spoil(l []int) {
	l = l[:cap(l)]
	for i := range l {
		l[i] = 77
	}
}

// result returns the list that a call returns, in the memory in which it is returned.
func result(name string, x input) []int {
	switch name {
	case "Make":
		p, _ := bond.Make(x.door.rule())
		return p.Locks
	case "Thin":
		p, _ := bond.Thin(x.door.plan())
		return p.Locks
	case "Any":
		r, _ := bond.Any(x.holders, x.many)
		return r.Opens
	}
	l, _ := named(name).run(x)
	return l
}

// R4: results share no memory with one another, and what becomes of one changes no later one.
func TestMemory(t *testing.T) {
	for d := range some(2, 20) {
		for _, c := range calls() {
			x := input{door: d, other: d, group: modelCount(d.holders) / 2, holders: d.holders, many: d.holders / 2}
			l := result(c.name, x)
			first := slices.Clone(l)
			again := result(c.name, x)
			spoil(l)
			if later := result(c.name, x); !slices.Equal(again, first) || !slices.Equal(later, first) {
				t.Fatalf("%s of %v: %v, and later %v, %v", c.name, x, first, again, later)
			}
		}
	}
}

// longer returns a copy of a list that goes on behind its end.
func longer(l []int) []int {
	return append(slices.Clone(l), 5, 6, 7)[:len(l)]
}

func whole(l []int) []int { return slices.Clone(l[:cap(l)]) }

// R4: arguments stay as they are, with all the memory behind them, and what becomes of them changes no result.
func TestArguments(t *testing.T) {
	for d := range some(2, 20) {
		for _, c := range calls() {
			x := input{door: door{d.holders, longer(d.groups)}, other: door{d.holders, longer(d.groups)}, group: 1, holders: d.holders, many: 1}
			slices.Reverse(x.door.groups)
			groups, others := whole(x.door.groups), whole(x.other.groups)
			l := result(c.name, x)
			if !slices.Equal(groups, whole(x.door.groups)) || !slices.Equal(others, whole(x.other.groups)) {
				t.Fatalf("%s of %v changed its arguments: %v", c.name, d, x)
			}
			first := slices.Clone(l)
			spoil(x.door.groups)
			spoil(x.other.groups)
			if !slices.Equal(l, first) {
				t.Fatalf("%s of %v: %v, and with another argument %v", c.name, d, first, l)
			}
		}
	}
}

// R4: a result, changed, is an argument like any other.
func TestChangedResult(t *testing.T) {
	r, _ := bond.Any(3, 2)
	r.Opens[0] = 1
	p, e := bond.Make(r)
	wantList(t, "Make", r, p.Locks, e, list(3, 5))
	p.Locks[1] = 0
	thin, e := bond.Thin(p)
	wantList(t, "Thin", p, thin.Locks, e, list(0))
	if again, e := bond.Any(3, 2); !slices.Equal(again.Opens, list(3, 5, 6)) || e != api.OK {
		t.Errorf("Any of 3, 2: %v %d", again, e)
	}
}
