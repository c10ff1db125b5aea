package store

import "vitola/api"

// Count returns the number of divisions.
func Count(boxes int) (int, api.Errno) {
	if e := checkBoxes(boxes); e != api.OK {
		return 0, e
	}
	return ways(boxes, 0), api.OK
}

// Into returns the number of divisions into some rooms.
func Into(boxes, rooms int) (int, api.Errno) {
	if e := checkBoxes(boxes); e != api.OK {
		return 0, e
	}
	if rooms < 1 || rooms > boxes {
		return 0, api.ErrRange
	}
	return into(boxes, rooms), api.OK
}

// At returns the division with a number.
func At(boxes, number int) ([]int, api.Errno) {
	if e := checkBoxes(boxes); e != api.OK {
		return nil, e
	}
	if number < 0 || number >= ways(boxes, 0) {
		return nil, api.ErrRange
	}
	division := make([]int, boxes)
	open := 0
	for box := range division {
		// Each room that is open already leads to as many divisions, all of which come before those with a new one.
		each := ways(boxes-1-box, open)
		room := min(number/each, open)
		number -= room * each
		division[box] = room
		if room == open {
			open++
		}
	}
	return division, api.OK
}

// Number returns the number of a division.
func Number(rooms []int) (int, api.Errno) {
	if e := Check(rooms); e != api.OK {
		return 0, e
	}
	number := 0
	open := 0
	for box, room := range rooms {
		number += room * ways(len(rooms)-1-box, open)
		if room == open {
			open++
		}
	}
	return number, api.OK
}

// ways returns in how many ways the boxes that are left can be put into rooms, some of which are open.
func ways(left, open int) int {
	if left == 0 {
		return 1
	}
	return open*ways(left-1, open) + ways(left-1, open+1)
}

// into returns the number of divisions of any number of boxes into any number of rooms: the last box is alone, or comes into a room of the others.
func into(boxes, rooms int) int {
	if boxes == 0 && rooms == 0 {
		return 1
	}
	if boxes == 0 || rooms == 0 {
		return 0
	}
	return into(boxes-1, rooms-1) + rooms*into(boxes-1, rooms)
}

// Flat returns the number of flat divisions.
func Flat(boxes int) (int, api.Errno) {
	if e := checkBoxes(boxes); e != api.OK {
		return 0, e
	}
	flat := []int{1}
	for many := 1; many <= boxes; many++ {
		sum := 0
		for before := range many {
			sum += flat[before] * flat[many-1-before]
		}
		flat = append(flat, sum)
	}
	return flat[boxes], api.OK
}
