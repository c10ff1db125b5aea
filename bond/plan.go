package bond

import "vitola/api"

// plan is a plan that was checked.
type plan struct {
	circle
}

// checkedPlan returns what a plan does, or the error of the plan.
func checkedPlan(p Plan) (plan, api.Errno) {
	inner := plan{circle{holders: p.Holders, groups: p.Locks}}
	if e := inner.check(); e != api.OK {
		return plan{}, e
	}
	return inner, api.OK
}

// lacks returns the indices of the locks to which nobody of a group has a key.
func (p plan) lacks(group int) []int {
	var missing []int
	for i, lock := range p.groups {
		if lock&group == 0 {
			missing = append(missing, i)
		}
	}
	return missing
}

// opens returns whether a group opens.
func (p plan) opens(group int) bool {
	return len(p.lacks(group)) == 0
}

// CheckPlan checks a plan.
func CheckPlan(p Plan) api.Errno {
	_, e := checkedPlan(p)
	return e
}

// Opens returns whether a group opens.
func Opens(p Plan, group int) (bool, api.Errno) {
	inner, e := checkedPlan(p)
	if e != api.OK {
		return false, e
	}
	if !inner.has(group) {
		return false, api.ErrNone
	}
	return inner.opens(group), api.OK
}

// Lacks returns which locks a group lacks.
func Lacks(p Plan, group int) ([]int, api.Errno) {
	inner, e := checkedPlan(p)
	if e != api.OK {
		return nil, e
	}
	if !inner.has(group) {
		return nil, api.ErrNone
	}
	return inner.lacks(group), api.OK
}

// Smallest returns the smallest groups that open.
func Smallest(p Plan) ([]int, api.Errno) {
	inner, e := checkedPlan(p)
	if e != api.OK {
		return nil, e
	}
	return inner.smallest(inner.opens), api.OK
}

// Keys returns how many keys each holder has.
func Keys(p Plan) ([]int, api.Errno) {
	inner, e := checkedPlan(p)
	if e != api.OK {
		return nil, e
	}
	keys := make([]int, inner.holders)
	for _, lock := range inner.groups {
		for holder := range keys {
			keys[holder] += lock >> holder & 1
		}
	}
	return keys, api.OK
}

// Thin returns a plan without locks that do nothing.
func Thin(p Plan) (Plan, api.Errno) {
	inner, e := checkedPlan(p)
	if e != api.OK {
		return Plan{}, e
	}
	return Plan{Holders: inner.holders, Locks: inner.smallest(inner.lists)}, api.OK
}
