package bond_test

import (
	"math"
	"slices"
	"testing"

	"vitola/api"
	"vitola/bond"
)

func TestLimits(t *testing.T) {
	if bond.MaxHolders != 6 || bond.MaxGroups != 64 {
		t.Error(bond.MaxHolders, bond.MaxGroups)
	}
}

// modelCheck looks at the numbers of a rule, or of a plan, one by one.
func modelCheck(d door) api.Errno {
	if d.holders < 1 || d.holders > 6 {
		return api.ErrRange
	}
	if len(d.groups) > 64 {
		return api.ErrMany
	}
	for _, group := range d.groups {
		if group < 0 || group > modelCount(d.holders)-1 {
			return api.ErrNone
		}
	}
	return api.OK
}

// checkDoor compares Check and CheckPlan with the model; the other calls return the same error, whatever else is wrong.
func checkDoor(t *testing.T, d door) {
	t.Helper()
	want := modelCheck(d)
	if e, f := bond.Check(d.rule()), bond.CheckPlan(d.plan()); e != want || f != want {
		t.Fatalf("Check of %v: %d; CheckPlan: %d; want %d", d, e, f, want)
	}
	if want == api.OK {
		return
	}
	others := []door{{0, nil}, {3, nil}, {d.holders, nil}, {2, make([]int, 65)}, {2, list(4)}, d}
	for _, c := range slices.Concat(callsOfRules(), callsOfPlans()) {
		for _, group := range list(math.MinInt, -1, 0, 3, 64) {
			for _, other := range others {
				wantError(t, c, input{door: d, other: other, group: group}, want)
			}
		}
	}
}

// P10.1, P10.4: numbers of holders, whatever else is wrong.
func TestRange(t *testing.T) {
	for _, holders := range append(extremes(), 0, 1, 2, 3, 4, 5, 6, 7, 8) {
		checkDoor(t, door{holders, nil})
		checkDoor(t, door{holders, list(0, 1)})
		checkDoor(t, door{holders, list(-1)})
		checkDoor(t, door{holders, make([]int, 65)})
		checkDoor(t, door{holders, slices.Repeat(list(-1), 65)})
	}
}

// P10.1, P10.4: numbers of groups, and too many of them before groups that are none.
func TestMany(t *testing.T) {
	for holders := 1; holders <= 6; holders++ {
		for _, many := range list(0, 1, 63, 64, 65, 128, 100_000) {
			for _, group := range list(0, 1, modelCount(holders)-1, modelCount(holders), -1) {
				checkDoor(t, door{holders, slices.Repeat(list(group), many)})
			}
		}
	}
}

// P10.1, P10.4: each number at each place.
func TestNone(t *testing.T) {
	for holders := 1; holders <= 6; holders++ {
		count := modelCount(holders)
		for place := range count {
			for _, wrong := range append(extremes(), 0, count/2, count-1, count, count+1, 2*count-1) {
				d := door{holders: holders}
				for group := range count {
					d.groups = append(d.groups, count-1-group)
				}
				d.groups[place] = wrong
				checkDoor(t, d)
			}
		}
	}
}

// P10.1, P10.4: what is not a group of the holders.
func TestGroup(t *testing.T) {
	for d := range some(2, 20) {
		count := modelCount(d.holders)
		for _, group := range append(extremes(), 0, 1, count-1, count, count+1) {
			for _, c := range []call{named("May"), named("Opens"), named("Lacks")} {
				x := input{door: d, group: group}
				if group < 0 || group >= count {
					wantError(t, c, x, api.ErrNone)
				} else if l, e := c.run(x); e != api.OK {
					t.Fatalf("%s of %v: %v %d", c.name, x, l, e)
				}
			}
		}
	}
}

// P10.3: numbers that are out of range.
func TestRangeOfAny(t *testing.T) {
	for _, holders := range append(extremes(), 0, 1, 2, 3, 4, 5, 6, 7, 8) {
		for _, many := range append(extremes(), 0, 1, 2, 3, 4, 5, 6, 7, 8) {
			x := input{holders: holders, many: many}
			if holders < 1 || holders > 6 || many < 0 || many > holders {
				wantError(t, named("Any"), x, api.ErrRange)
			} else if l, e := named("Any").run(x); e != api.OK {
				t.Errorf("Any of %d, %d: %v %d", holders, many, l, e)
			}
		}
	}
}

// P10.7: the error of the rule, then that of the plan, then that of both.
func TestErrorOfFits(t *testing.T) {
	doors := []door{{0, nil}, {7, nil}, {2, nil}, {3, nil}, {6, list(63)}, {2, make([]int, 65)}, {3, slices.Repeat(list(8), 65)}, {2, list(4)}, {3, list(4)}, {3, list(-1)}}
	for _, d := range doors {
		for _, other := range doors {
			want := modelCheck(d)
			if want == api.OK {
				want = modelCheck(other)
			}
			if want == api.OK && d.holders != other.holders {
				want = api.ErrShape
			}
			if want != api.OK {
				wantError(t, named("Fits"), input{door: d, other: other}, want)
			} else if _, e := bond.Fits(d.rule(), other.plan()); e != api.OK && e != api.ErrClash {
				t.Errorf("Fits of %v, %v: %d", d, other, e)
			}
		}
	}
}

// R3: a nil list and an empty one are equal.
func TestNil(t *testing.T) {
	for _, c := range slices.Concat(callsOfRules(), callsOfPlans()) {
		for holders := 1; holders <= 6; holders++ {
			for _, other := range []door{{holders, list(0)}, {holders, list(1)}, {holders, nil}} {
				for group := range modelCount(holders) {
					l, e := c.run(input{door: door{holders, nil}, other: other, group: group})
					m, f := c.run(input{door: door{holders, list()}, other: door{holders, append(list(), other.groups...)}, group: group})
					if !slices.Equal(l, m) || e != f {
						t.Fatalf("%s of %d, %d: %v %d, %v %d", c.name, holders, group, l, e, m, f)
					}
				}
			}
		}
	}
}

// P1: each call ends with the extreme numbers, and has the same result the second time.
func TestSameAgain(t *testing.T) {
	numbers := append(extremes(), 0, 1, 3, 6, 7, 63)
	for _, c := range calls() {
		for _, n := range numbers {
			for _, m := range numbers {
				checkAgain(t, c, input{door: door{n, list(n, m)}, other: door{m, list(n)}, group: m, holders: n, many: m})
				checkAgain(t, c, input{door: door{6, list(n)}, other: door{6, list(m)}, group: m, holders: m, many: 3})
				checkAgain(t, c, input{door: door{3, list(5, 6)}, other: door{n, list(m)}, group: n, holders: 6, many: n})
			}
		}
	}
}

func checkAgain(t *testing.T, c call, x input) {
	t.Helper()
	l, e := c.run(x)
	if other, f := c.run(x); !slices.Equal(l, other) || e != f {
		t.Fatalf("%s of %v: %v %d, then %v %d", c.name, x, l, e, other, f)
	}
	if e != api.OK && len(l) != 0 {
		t.Fatalf("%s of %v: %v with the error %d", c.name, x, l, e)
	}
}
