package store

// roomsBy is rooms that are found by a key, which all boxes of a room have in common.
type roomsBy[K comparable] struct {
	numbers map[K]int
}

// room returns the number of the room with a key. The first box with the key opens it, so rooms are numbered in the order of their first boxes.
func (r roomsBy[K]) room(key K) int {
	number, ok := r.numbers[key]
	if !ok {
		number = len(r.numbers)
		r.numbers[key] = number
	}
	return number
}

// divided returns the division in which just those boxes are together that have equal keys.
func divided[K comparable](keys []K) []int {
	rooms := roomsBy[K]{numbers: map[K]int{}}
	division := make([]int, len(keys))
	for box, key := range keys {
		division[box] = rooms.room(key)
	}
	return division
}
