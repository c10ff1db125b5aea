package club_test

import (
	"slices"
	"testing"

	"vitola/api"
	"vitola/club"
)

// spoil overwrites a list and all the memory behind it.
func spoil(l []int) {
	l = l[:cap(l)]
	for i := range l {
		l[i] = 77
	}
}

func spoilTables(tables [][2]int) {
	tables = tables[:cap(tables)]
	for i := range tables {
		tables[i] = [2]int{77, 77}
	}
}

// kept is what a call returned, in the memory in which it was returned.
type kept struct {
	plan   club.Plan
	counts []int
}

func (k kept) numbers() []int { return slices.Concat(numbers(k.plan), k.counts) }

func (k kept) spoil() {
	spoil(k.counts)
	spoilTables(k.plan.Tables)
}

// results returns what all calls return that return a list.
func results(x input) []kept {
	made, _ := club.Make(x.counts)
	counts, _ := club.Counts(x.plan)
	crossed, _ := club.Cross(x.plan, x.one, x.two, x.turned)
	others, _ := club.Others(x.plan)
	return []kept{{plan: made}, {counts: counts}, {plan: crossed}, {plan: others}}
}

// inputs gives arguments of all calls.
func inputs() []input {
	var all []input
	for p := range somePlans(4, 30) {
		x := input{counts: modelCounts(p), k: 1, plan: p}
		all = append(all, x)
		for i, y := range crossings(p) {
			if _, e := club.Cross(p, y.one, y.two, y.turned); e == api.OK && i%3 == 0 {
				x.one, x.two, x.turned = y.one, y.two, y.turned
				all = append(all, x)
			}
		}
	}
	return all
}

// R4: results share no memory with one another, and what becomes of one changes no later one.
func TestMemory(t *testing.T) {
	for _, x := range inputs() {
		again := results(x)
		for i, k := range results(x) {
			first := k.numbers()
			k.spoil()
			if later := results(x)[i].numbers(); !slices.Equal(again[i].numbers(), first) || !slices.Equal(later, first) {
				t.Fatalf("call %d of %v: %v, and later %v, %v", i, x, first, again[i], later)
			}
		}
	}
}

// R4: arguments stay as they are, with all the memory behind them, and what becomes of them changes no result.
func TestArguments(t *testing.T) {
	for _, x := range inputs() {
		for _, c := range calls() {
			counts := append(slices.Clone(x.counts), 5, 6, 7)
			tables := append(slices.Clone(x.plan.Tables), [2]int{5, 6}, [2]int{7, 7})
			y := x
			y.counts = counts[:len(x.counts)]
			y.plan.Tables = tables[:len(x.plan.Tables)]
			c.run(y)
			if !slices.Equal(counts, append(slices.Clone(x.counts), 5, 6, 7)) || !slices.Equal(tables, append(slices.Clone(x.plan.Tables), [2]int{5, 6}, [2]int{7, 7})) {
				t.Fatalf("%s of %v changed its arguments: %v, %v", c.name, x, counts, tables)
			}
		}
		y := input{counts: slices.Clone(x.counts), plan: plan(x.plan.Sorters, numbers(x.plan)[1:]...), one: x.one, two: x.two, turned: x.turned}
		all := results(y)
		spoil(y.counts)
		spoilTables(y.plan.Tables)
		for i, k := range results(x) {
			if !slices.Equal(all[i].numbers(), k.numbers()) {
				t.Fatalf("call %d of %v: %v, and with another argument %v", i, x, k, all[i])
			}
		}
	}
}

// R4: a result, changed, is an argument like any other.
func TestChangedResult(t *testing.T) {
	p, e := club.Make(list(2, 2, 1, 1))
	if e != api.OK || len(p.Tables) != 3 {
		t.Fatalf("Make: %v %d", p, e)
	}
	p.Tables[0] = [2]int{3, 2}
	wantResult(t, "Counts", input{plan: p}, 1, 1, 2, 2)
	p.Tables[1] = [2]int{3, 1}
	wantError(t, "Counts", input{plan: p}, api.ErrTwice)
	p.Sorters = 3
	wantError(t, "Others", input{plan: p}, api.ErrNone)
}
