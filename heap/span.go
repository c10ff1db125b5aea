package heap

import "vitola/api"

// span is all hours from one to another one.
type span struct{ from, to int }

// past is behind the last span.
var past = span{from: MaxHour + 1, to: MaxHour + 1}

// next returns the span that follows in ascending order.
func (s span) next() span {
	if s.to < MaxHour {
		return span{s.from, s.to + 1}
	}
	return span{s.from + 1, s.from + 1}
}

// holds returns how many heaps lie in the span.
func (s span) holds(heaps []Heap) int {
	many := 0
	for _, h := range heaps {
		if s.from <= h.From && h.To <= s.to {
			many++
		}
	}
	return many
}

func (s span) crowded(heaps []Heap, hands int) bool {
	return s.holds(heaps) > (s.to-s.from+1)*hands
}

// firstCrowded returns the first crowded span, or past if there is none.
func firstCrowded(heaps []Heap, hands int) span {
	s := span{0, 0}
	for s != past && !s.crowded(heaps, hands) {
		s = s.next()
	}
	return s
}

// possible returns whether there is a plan; only a crowded span can prevent it (P2.8).
func possible(heaps []Heap, hands int) bool {
	return firstCrowded(heaps, hands) == past
}

// Crowd returns how many heaps lie in a span.
func Crowd(heaps []Heap, from, to int) (int, api.Errno) {
	if e := Check(heaps); e != api.OK {
		return 0, e
	}
	if e := checkSpan(from, to); e != api.OK {
		return 0, e
	}
	return span{from, to}.holds(heaps), api.OK
}

// Why returns a crowded span.
func Why(heaps []Heap, hands int) (from, to int, e api.Errno) {
	if e := checkHands(heaps, hands); e != api.OK {
		return 0, 0, e
	}
	s := firstCrowded(heaps, hands)
	if s == past {
		return 0, 0, api.ErrClash
	}
	return s.from, s.to, api.OK
}
