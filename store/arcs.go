package store

import (
	"slices"

	"vitola/api"
)

// arc leads from a box to the next one of the same room.
type arc struct {
	from, to int
}

// Arcs returns the numbers of crossings and nestings.
func Arcs(rooms []int) (crossings, nestings int, e api.Errno) {
	if e = Check(rooms); e != api.OK {
		return 0, 0, e
	}
	crossings, nestings = met(arcsOf(rooms))
	return crossings, nestings, api.OK
}

// Gaps returns the division of the gaps.
func Gaps(rooms []int) ([]int, api.Errno) {
	if e := checkFlat(rooms); e != api.OK {
		return nil, e
	}
	return gapsOf(rooms), api.OK
}

// Back returns the division to which one of gaps belongs.
func Back(gaps []int) ([]int, api.Errno) {
	if e := checkFlat(gaps); e != api.OK {
		return nil, e
	}
	return ownerOf(gaps), api.OK
}

// checkFlat returns the error of a division that must be flat.
func checkFlat(rooms []int) api.Errno {
	if e := Check(rooms); e != api.OK {
		return e
	}
	if crossings, _ := met(arcsOf(rooms)); crossings > 0 {
		return api.ErrClash
	}
	return api.OK
}

// arcsOf returns the arcs of a division, in the order of the boxes from which they lead.
func arcsOf(rooms []int) []arc {
	var arcs []arc
	for box, room := range rooms {
		if further := slices.Index(rooms[box+1:], room); further >= 0 {
			arcs = append(arcs, arc{from: box, to: box + 1 + further})
		}
	}
	return arcs
}

// met returns how many pairs of arcs cross and nest.
func met(arcs []arc) (crossings, nestings int) {
	for i, first := range arcs {
		for _, second := range arcs[i+1:] {
			if second.to < first.to {
				nestings++
			} else if second.from < first.to {
				crossings++
			}
		}
	}
	return crossings, nestings
}

// gapsOf returns the division of the gaps that belongs to a flat division.
func gapsOf(rooms []int) []int {
	// Two gaps have all boxes of a room between them, or none, just if equally many of them lie before both, all of them counted as none.
	sizes := [MaxBoxes]int{}
	for _, room := range rooms {
		sizes[room]++
	}
	before := [MaxBoxes]int{}
	keys := make([][MaxBoxes]int, len(rooms))
	for gap, room := range rooms {
		before[room] = (before[room] + 1) % sizes[room]
		keys[gap] = before
	}
	return divided(keys)
}

// ownerOf returns the flat division to which a flat one of gaps belongs.
func ownerOf(gaps []int) []int {
	// To the division of gaps, taken as one of boxes, belongs the one that is asked for, with each box one place before its own.
	turned := gapsOf(gaps)
	last := len(turned) - 1
	return divided(append([]int{turned[last]}, turned[:last]...))
}
