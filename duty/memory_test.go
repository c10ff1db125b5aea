package duty_test

import (
	"slices"
	"testing"

	"vitola/api"
	"vitola/duty"
)

// spoil overwrites a list and all the memory behind it.
func spoil(l []int) {
	l = l[:cap(l)]
	for i := range l {
		l[i] = 77
	}
}

// kept is what a call returned, in the memory in which it was returned.
type kept struct {
	parts []int
	pairs [][2]int
}

func (k kept) numbers() []int { return slices.Concat(k.parts, numbers(k.pairs)) }

func (k kept) spoil() {
	spoil(k.parts)
	pairs := k.pairs[:cap(k.pairs)]
	for i := range pairs {
		pairs[i] = [2]int{77, 77}
	}
}

// results returns what all calls return that return a list.
func results(x input) []kept {
	greedy, _ := duty.Greedy(x.f)
	pairs, _ := duty.Pairs(x.part)
	two, _ := duty.Two(x.f)
	fewest, _ := duty.Fewest(x.f)
	divided, _ := duty.Divide(x.parts, x.index)
	each, _, _ := duty.Cents(x.total, x.parts)
	return []kept{{parts: greedy}, {pairs: pairs}, {parts: two}, {parts: fewest}, {parts: divided}, {parts: each}}
}

// inputs gives arguments of all calls.
func inputs() []input {
	var all []input
	for f := range fractions() {
		all = append(all, input{f: f, many: 2, part: f.Below, parts: list(2), total: 10})
	}
	for parts := range allParts(7) {
		for index := range parts {
			all = append(all, input{f: of(5, 6), many: 2, part: 6, parts: parts, index: index, total: 1000})
		}
	}
	return all
}

// R4: results share no memory with one another, and what becomes of one changes no later one.
func TestMemory(t *testing.T) {
	for _, x := range inputs() {
		again := results(x)
		for i, k := range results(x) {
			first := k.numbers()
			k.spoil()
			if later := results(x)[i].numbers(); !slices.Equal(again[i].numbers(), first) || !slices.Equal(later, first) {
				t.Fatalf("call %d of %v: %v, and later %v, %v", i, x, first, again[i], later)
			}
		}
	}
}

// R4: arguments stay as they are, with all the memory behind them, and what becomes of them changes no result.
func TestArguments(t *testing.T) {
	for _, x := range inputs() {
		for _, c := range calls() {
			parts := append(slices.Clone(x.parts), 5, 6, 7)
			y := x
			y.parts = parts[:len(x.parts)]
			c.run(y)
			if !slices.Equal(parts, append(slices.Clone(x.parts), 5, 6, 7)) {
				t.Fatalf("%s of %v changed its arguments: %v", c.name, x, parts)
			}
		}
		y := x
		y.parts = slices.Clone(x.parts)
		all := results(y)
		spoil(y.parts)
		for i, k := range results(x) {
			if !slices.Equal(all[i].numbers(), k.numbers()) {
				t.Fatalf("call %d of %v: %v, and with another argument %v", i, x, k, all[i])
			}
		}
	}
}

// R4: a result, changed, is an argument like any other.
func TestChangedResult(t *testing.T) {
	parts, e := duty.Fewest(of(4, 5))
	if e != api.OK || len(parts) != 3 {
		t.Fatalf("Fewest: %v %d", parts, e)
	}
	parts[2] = 5
	wantResult(t, "Sum", input{parts: parts}, 19, 20)
	parts[1] = 2
	wantError(t, "Sum", input{parts: parts}, api.ErrOrder)
	wantResult(t, "Fewest", input{f: of(4, 5)}, 2, 4, 20)
}
