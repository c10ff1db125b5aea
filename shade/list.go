package shade

import (
	"cmp"
	"iter"
	"slices"
)

// total returns the sum of numbers.
func total(numbers ...int) int {
	sum := 0
	for _, number := range numbers {
		sum += number
	}
	return sum
}

// greatest returns the greatest one of numbers that are not below 0, and 0 if there is none.
func greatest(numbers ...int) int {
	most := 0
	for _, number := range numbers {
		most = max(most, number)
	}
	return most
}

// joined returns a list with more elements behind it, in new memory.
func joined[T any](list []T, more ...T) []T {
	return slices.Concat(list, more)
}

// smaller returns how many elements of a list are smaller than a value.
func smaller[T cmp.Ordered](list []T, than T) int {
	many := 0
	for _, element := range list {
		if element < than {
			many++
		}
	}
	return many
}

// neighbours gives each two elements one after the other; if the list is round, the last and the first one, too.
func neighbours[T any](list []T, round bool) iter.Seq2[T, T] {
	return func(yield func(T, T) bool) {
		for i := 1; i < len(list); i++ {
			if !yield(list[i-1], list[i]) {
				return
			}
		}
		if round && len(list) > 1 {
			yield(list[len(list)-1], list[0])
		}
	}
}

// turns returns whether the elements of a list become greater and smaller by turns, greater at first.
func turns[T cmp.Ordered](list []T) bool {
	want := -1
	for one, next := range neighbours(list, false) {
		if cmp.Compare(one, next) != want {
			return false
		}
		want = -want
	}
	return true
}

// advance makes a list the next greater one of its arrangements, and returns whether there is one.
func advance[T cmp.Ordered](list []T) bool {
	at := len(list) - 2
	for at >= 0 && list[at] >= list[at+1] {
		at--
	}
	if at < 0 {
		return false
	}
	// What is behind falls, so the last one that is greater is the smallest one that is.
	with := len(list) - 1
	for list[with] <= list[at] {
		with--
	}
	list[at], list[with] = list[with], list[at]
	slices.Reverse(list[at+1:])
	return true
}

// cheapest returns, of all arrangements of a list that have the lowest cost, the first one.
func cheapest[T cmp.Ordered](list []T, cost func([]T) int) []T {
	arranged := slices.Sorted(slices.Values(list))
	best, lowest := slices.Clone(arranged), cost(arranged)
	for advance(arranged) {
		if now := cost(arranged); now < lowest {
			lowest = now
			copy(best, arranged)
		}
	}
	return best
}
