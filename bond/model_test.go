package bond_test

import (
	"iter"
	"math"
	"math/rand"
	"slices"
	"testing"

	"vitola/api"
	"vitola/bond"
)

// The tests compare the package with a model that follows the words of the chapter and shares nothing with the package.

func list(numbers ...int) []int { return numbers }

// extremes are numbers that are never right, among them some that look right if they are cut to 32 bits.
func extremes() []int {
	return list(math.MinInt, math.MinInt+1, -1<<32, -1<<31, -64, -2, -1, 64, 65, 1<<31-1, 1<<32, 1<<32+3, 1<<62, math.MaxInt)
}

// A door is holders and groups of them: what a rule has in Opens, and a plan in Locks.
type door struct {
	holders int
	groups  []int
}

func (d door) rule() bond.Rule { return bond.Rule{Holders: d.holders, Opens: d.groups} }

func (d door) plan() bond.Plan { return bond.Plan{Holders: d.holders, Locks: d.groups} }

// with returns the door with a group more.
func (d door) with(group int) door {
	return door{d.holders, append(slices.Clone(d.groups), group)}
}

// modelCount is the number of groups of so many holders.
func modelCount(holders int) int {
	count := 1
	for range holders {
		count *= 2
	}
	return count
}

// modelMembers returns the holders that a group has.
func modelMembers(group int) []int {
	var members []int
	for holder := 0; group > 0; holder++ {
		if group%2 == 1 {
			members = append(members, holder)
		}
		group /= 2
	}
	return members
}

// modelGroup returns the group that has some holders, each of them once.
func modelGroup(members ...int) int {
	group := 0
	for _, holder := range members {
		group += modelCount(holder)
	}
	return group
}

// liesIn has, by two groups, whether the first one lies in the second one, and meets whether they have a holder in common.
var liesIn, meets = modelPairs()

func modelPairs() (in, common [64][64]bool) {
	for a := range 64 {
		for b := range 64 {
			in[a][b] = true
			for _, holder := range modelMembers(a) {
				if slices.Contains(modelMembers(b), holder) {
					common[a][b] = true
				} else {
					in[a][b] = false
				}
			}
		}
	}
	return in, common
}

// modelMay tells of each group whether it may open.
func modelMay(d door) []bool {
	may := make([]bool, modelCount(d.holders))
	for group := range may {
		for _, one := range d.groups {
			if liesIn[one][group] {
				may[group] = true
			}
		}
	}
	return may
}

// modelLacks returns the locks that a group lacks.
func modelLacks(d door, group int) []int {
	var lacks []int
	for i, lock := range d.groups {
		if !meets[lock][group] {
			lacks = append(lacks, i)
		}
	}
	return lacks
}

// modelOpens tells of each group whether it opens.
func modelOpens(d door) []bool {
	opens := make([]bool, modelCount(d.holders))
	for group := range opens {
		opens[group] = len(modelLacks(d, group)) == 0
	}
	return opens
}

// modelSmallest returns the groups that are so, in which no other one lies that is.
func modelSmallest(so []bool) []int {
	var all []int
	for group, is := range so {
		for other, also := range so {
			if also && other != group && liesIn[other][group] {
				is = false
			}
		}
		if is {
			all = append(all, group)
		}
	}
	return all
}

// modelLargest returns the groups that are not so, and lie in no other one that is not.
func modelLargest(so []bool) []int {
	var all []int
	for group, is := range so {
		for other, also := range so {
			if !also && other != group && liesIn[group][other] {
				is = true
			}
		}
		if !is {
			all = append(all, group)
		}
	}
	return all
}

// modelOthers returns the group of all holders that are not in a group.
func modelOthers(holders, group int) int {
	var others []int
	for holder := range holders {
		if !slices.Contains(modelMembers(group), holder) {
			others = append(others, holder)
		}
	}
	return modelGroup(others...)
}

// modelLocks returns the locks that Make returns, as the chapter makes them from Barred.
func modelLocks(d door) []int {
	var locks []int
	for _, group := range modelLargest(modelMay(d)) {
		locks = append(locks, modelOthers(d.holders, group))
	}
	slices.Sort(locks)
	return locks
}

// modelThin returns the locks in which no other lock lies.
func modelThin(d door) []int {
	locks := make([]bool, modelCount(d.holders))
	for _, lock := range d.groups {
		locks[lock] = true
	}
	return modelSmallest(locks)
}

// modelKeys counts the keys of each holder.
func modelKeys(d door) []int {
	keys := make([]int, d.holders)
	for _, lock := range d.groups {
		for _, holder := range modelMembers(lock) {
			keys[holder]++
		}
	}
	return keys
}

// sets gives all sets of groups of so many holders, which are at most 4, each one in ascending order.
func sets(holders int) iter.Seq[door] {
	return func(yield func(door) bool) {
		count := modelCount(holders)
		for set := range modelCount(count) {
			d := door{holders: holders}
			for group := range count {
				if set>>group&1 == 1 {
					d.groups = append(d.groups, group)
				}
			}
			if !yield(d) {
				return
			}
		}
	}
}

// samples gives so many doors of so many holders, always the same ones: groups in any order, some of them twice.
func samples(holders, many int) iter.Seq[door] {
	return func(yield func(door) bool) {
		random := rand.New(rand.NewSource(int64(10 + holders)))
		for i := range many {
			d := door{holders: holders}
			long := random.Intn([]int{4, 8, 20, 65}[i%4])
			// Where only groups of a few sizes are taken, many of them lie in no other one.
			low := random.Intn(holders + 1)
			high := low + i%3
			for len(d.groups) < long {
				group := random.Intn(modelCount(holders))
				if size := len(modelMembers(group)); low <= size && size <= high {
					d.groups = append(d.groups, group)
				}
			}
			if !yield(d) {
				return
			}
		}
	}
}

// some gives all sets of groups of up to so many holders, and samples for each number of holders.
func some(holders, many int) iter.Seq[door] {
	return func(yield func(door) bool) {
		for n := 1; n <= 6; n++ {
			if n <= holders {
				for d := range sets(n) {
					if !yield(d) {
						return
					}
				}
			}
			for d := range samples(n, many) {
				if !yield(d) {
					return
				}
			}
		}
	}
}

// input has the arguments of all calls, of which each one takes some.
type input struct {
	door, other   door
	group         int
	holders, many int
}

// A call returns its results as one list, empty if all of them are zero values and there is an error.
type call struct {
	name string
	run  func(x input) ([]int, api.Errno)
}

// flat returns holders and groups as one list.
func flat(holders int, groups []int) []int {
	if holders == 0 && len(groups) == 0 {
		return nil
	}
	return append(list(holders), groups...)
}

// truth returns 1 for true, and for false 0, or nothing if there is an error.
func truth(is bool, e api.Errno) ([]int, api.Errno) {
	if is {
		return list(1), e
	}
	if e != api.OK {
		return nil, e
	}
	return list(0), e
}

// callsOfRules are the calls that return a rule's error at first.
func callsOfRules() []call {
	return []call{
		{"Check", func(x input) ([]int, api.Errno) { return nil, bond.Check(x.door.rule()) }},
		{"May", func(x input) ([]int, api.Errno) { return truth(bond.May(x.door.rule(), x.group)) }},
		{"Least", func(x input) ([]int, api.Errno) { return bond.Least(x.door.rule()) }},
		{"Barred", func(x input) ([]int, api.Errno) { return bond.Barred(x.door.rule()) }},
		{"Make", func(x input) ([]int, api.Errno) {
			p, e := bond.Make(x.door.rule())
			return flat(p.Holders, p.Locks), e
		}},
		{"Fits", func(x input) ([]int, api.Errno) {
			group, e := bond.Fits(x.door.rule(), x.other.plan())
			if e != api.OK && group == 0 {
				return nil, e
			}
			return list(group), e
		}},
	}
}

// callsOfPlans are the calls that return a plan's error at first.
func callsOfPlans() []call {
	return []call{
		{"CheckPlan", func(x input) ([]int, api.Errno) { return nil, bond.CheckPlan(x.door.plan()) }},
		{"Opens", func(x input) ([]int, api.Errno) { return truth(bond.Opens(x.door.plan(), x.group)) }},
		{"Lacks", func(x input) ([]int, api.Errno) { return bond.Lacks(x.door.plan(), x.group) }},
		{"Smallest", func(x input) ([]int, api.Errno) { return bond.Smallest(x.door.plan()) }},
		{"Keys", func(x input) ([]int, api.Errno) { return bond.Keys(x.door.plan()) }},
		{"Thin", func(x input) ([]int, api.Errno) {
			p, e := bond.Thin(x.door.plan())
			return flat(p.Holders, p.Locks), e
		}},
	}
}

// callOfAny is the call of two numbers.
func callOfAny() call {
	return call{"Any", func(x input) ([]int, api.Errno) {
		r, e := bond.Any(x.holders, x.many)
		return flat(r.Holders, r.Opens), e
	}}
}

func calls() []call {
	return append(slices.Concat(callsOfRules(), callsOfPlans()), callOfAny())
}

// named returns the call with a name.
func named(name string) call {
	all := calls()
	return all[slices.IndexFunc(all, func(c call) bool { return c.name == name })]
}

func wantError(t *testing.T, c call, x input, want api.Errno) {
	t.Helper()
	if l, e := c.run(x); e != want || len(l) != 0 {
		t.Fatalf("%s of %v: %v %d, want error %d", c.name, x, l, e, want)
	}
}

func wantList(t *testing.T, what string, of any, l []int, e api.Errno, want []int) {
	t.Helper()
	if !slices.Equal(l, want) || e != api.OK {
		t.Fatalf("%s of %v: %v %d, want %v", what, of, l, e, want)
	}
}
