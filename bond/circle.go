package bond

import (
	"slices"

	"vitola/api"
)

// circle is what rules and plans have in common: holders, and some groups of them.
type circle struct {
	holders int
	groups  []int
}

// everybody returns the group of all holders, which is the greatest number of a group.
func (c circle) everybody() int {
	return 1<<c.holders - 1
}

// has returns whether a number is a group of the holders.
func (c circle) has(number int) bool {
	return 0 <= number && number <= c.everybody()
}

// lists returns whether a group is one of the groups.
func (c circle) lists(group int) bool {
	return slices.Contains(c.groups, group)
}

// check returns the error of the circle.
func (c circle) check() api.Errno {
	if c.holders < 1 || c.holders > MaxHolders {
		return api.ErrRange
	}
	if len(c.groups) > MaxGroups {
		return api.ErrMany
	}
	for _, group := range c.groups {
		if !c.has(group) {
			return api.ErrNone
		}
	}
	return api.OK
}

// smallest returns, in ascending order, the groups that are so, and in which no other one lies that is.
func (c circle) smallest(so func(group int) bool) []int {
	var found []int
	// A group that lies in another one is a smaller number, so it comes first.
	for group := range c.everybody() + 1 {
		if so(group) && !oneLiesIn(found, group) {
			found = append(found, group)
		}
	}
	return found
}

// oneLiesIn returns whether one of some groups lies in a group.
func oneLiesIn(some []int, group int) bool {
	for _, one := range some {
		if one&^group == 0 {
			return true
		}
	}
	return false
}
