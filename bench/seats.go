package bench

import "slices"

// Seats are the rollers who still sit, around the bench, from the one who is counted next.
type seats []int

// full returns the seats before anybody goes.
func full(rollers int) seats {
	s := make(seats, rollers)
	for roller := range rollers {
		s[roller] = roller
	}
	return s
}

// reached returns the seat of the one who goes next.
func (s seats) reached(count int) int {
	return (count - 1) % len(s)
}

// times returns how often the one at a seat is counted until the next one goes.
func (s seats) times(seat, count int) int {
	return (count - 1 - seat + len(s)) / len(s)
}

// leave puts the one at a seat, who goes, in front of all others, and returns the seats of these.
func (s seats) leave(seat int) seats {
	before, behind := s[:seat:seat], s[seat:len(s):len(s)]
	// Reversed part by part and then as a whole, both parts change their places and stay as they were.
	slices.Reverse(before)
	slices.Reverse(behind)
	slices.Reverse(s)
	return s[1:len(s):len(s)]
}

// order returns the order for a count.
func order(rollers, count int) []int {
	all := full(rollers)
	sitting := all
	for range rollers {
		sitting = sitting.leave(sitting.reached(count))
	}
	// Each one was put behind those who went before.
	return all
}

// last returns who stays last.
func last(rollers, count int) int {
	return order(rollers, count)[rollers-1]
}

// counted returns how often a roller is counted.
func counted(rollers, count, roller int) int {
	times := 0
	sitting := full(rollers)
	for range rollers {
		seat := slices.Index(sitting, roller)
		times += sitting.times(seat, count)
		goes := sitting.reached(count)
		if goes == seat {
			break
		}
		sitting = sitting.leave(goes)
	}
	return times
}
