package store_test

import (
	"testing"

	"vitola/api"
)

// crossed and nested are P and Q of the table of examples of the chapter.
func crossed() []int { return list(0, 1, 0, 1, 2) }

func nested() []int { return list(0, 1, 1, 0, 2) }

func TestExamplesOfCheck(t *testing.T) {
	wantResult(t, "Of", input{a: list(7, 3, 3, 7, 5)}, 0, 1, 1, 0, 2)
	wantError(t, named("Of"), input{}, api.ErrEmpty)
	wantError(t, named("Check"), input{a: list(0, 2)}, api.ErrOrder)
	wantError(t, named("Check"), input{a: list(1)}, api.ErrOrder)
	wantError(t, named("Check"), input{a: list(0, -1)}, api.ErrRange)
}

func TestExamplesOfCount(t *testing.T) {
	wantResult(t, "Count", input{boxes: 5}, 52)
	wantResult(t, "Count", input{boxes: 9}, 21147)
	wantResult(t, "Into", input{boxes: 5, number: 3}, 25)
	wantResult(t, "Into", input{boxes: 9, number: 4}, 7770)
	wantError(t, named("Into"), input{boxes: 5, number: 6}, api.ErrRange)
}

func TestExamplesOfAt(t *testing.T) {
	wantResult(t, "At", input{boxes: 3}, 0, 0, 0)
	wantResult(t, "At", input{boxes: 3, number: 2}, 0, 1, 0)
	wantResult(t, "At", input{boxes: 3, number: 4}, 0, 1, 2)
	wantError(t, named("At"), input{boxes: 3, number: 5}, api.ErrRange)
	wantResult(t, "Number", input{a: list(0, 1, 1)}, 3)
	wantResult(t, "Number", input{a: nested()}, 27)
}

func TestExamplesOfTwo(t *testing.T) {
	wantResult(t, "Finer", input{a: crossed(), b: nested()}, 0)
	wantResult(t, "Finer", input{a: list(0, 1, 2, 3, 4), b: crossed()}, 1)
	wantResult(t, "Join", input{a: crossed(), b: nested()}, 0, 0, 0, 0, 1)
	wantResult(t, "Meet", input{a: crossed(), b: nested()}, 0, 1, 2, 3, 4)
	wantError(t, named("Join"), input{a: crossed(), b: list(0, 1, 2)}, api.ErrShape)
}

func TestExamplesOfArcs(t *testing.T) {
	wantResult(t, "Arcs", input{a: crossed()}, 1, 0)
	wantResult(t, "Arcs", input{a: nested()}, 0, 1)
	wantResult(t, "Flat", input{boxes: 5}, 42)
	wantResult(t, "Flat", input{boxes: 9}, 4862)
}

func TestExamplesOfGaps(t *testing.T) {
	wantResult(t, "Gaps", input{a: nested()}, 0, 1, 0, 2, 2)
	wantError(t, named("Gaps"), input{a: crossed()}, api.ErrClash)
	wantResult(t, "Back", input{a: list(0, 1, 0, 2, 2)}, 0, 1, 1, 0, 2)
	wantResult(t, "Gaps", input{a: list(0, 0, 0)}, 0, 1, 2)
	wantResult(t, "Gaps", input{a: list(0, 1, 2)}, 0, 0, 0)
	wantResult(t, "Gaps", input{a: list(0, 0, 1)}, 0, 1, 1)
}
