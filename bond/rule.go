package bond

import (
	"math/bits"
	"slices"

	"vitola/api"
)

// rule is a rule that was checked.
type rule struct {
	circle
}

// checkedRule returns what a rule says, or the error of the rule.
func checkedRule(r Rule) (rule, api.Errno) {
	inner := rule{circle{holders: r.Holders, groups: r.Opens}}
	if e := inner.check(); e != api.OK {
		return rule{}, e
	}
	return inner, api.OK
}

// may returns whether a group may open.
func (r rule) may(group int) bool {
	return oneLiesIn(r.groups, group)
}

// needed returns whether nobody may open without a holder of a group.
func (r rule) needed(group int) bool {
	return !r.may(r.everybody() &^ group)
}

// locks returns the fewest locks that do what the rule says: each one has just those who are not in a largest group that may not open.
func (r rule) locks() []int {
	return r.smallest(r.needed)
}

// Check checks a rule.
func Check(r Rule) api.Errno {
	_, e := checkedRule(r)
	return e
}

// May returns whether a group may open.
func May(r Rule, group int) (bool, api.Errno) {
	inner, e := checkedRule(r)
	if e != api.OK {
		return false, e
	}
	if !inner.has(group) {
		return false, api.ErrNone
	}
	return inner.may(group), api.OK
}

// Least returns the smallest groups that may open.
func Least(r Rule) ([]int, api.Errno) {
	inner, e := checkedRule(r)
	if e != api.OK {
		return nil, e
	}
	return inner.smallest(inner.may), api.OK
}

// Barred returns the largest groups that may not open.
func Barred(r Rule) ([]int, api.Errno) {
	inner, e := checkedRule(r)
	if e != api.OK {
		return nil, e
	}
	var barred []int
	for _, lock := range inner.locks() {
		barred = append(barred, inner.everybody()&^lock)
	}
	slices.Reverse(barred)
	return barred, api.OK
}

// Any returns the rule by which any so many holders may open.
func Any(holders, many int) (Rule, api.Errno) {
	if holders < 1 || holders > MaxHolders || many < 0 || many > holders {
		return Rule{}, api.ErrRange
	}
	every := circle{holders: holders}
	enough := func(group int) bool { return bits.OnesCount(uint(group)) >= many }
	return Rule{Holders: holders, Opens: every.smallest(enough)}, api.OK
}
