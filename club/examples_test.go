package club_test

import (
	"testing"

	"vitola/api"
	"vitola/club"
)

// two is P of the table of examples of the chapter.
func two() club.Plan { return plan(4, 0, 1, 2, 3) }

func TestExamplesOfCan(t *testing.T) {
	wantResult(t, "Can", input{counts: list(2, 2, 1, 1)}, 1)
	wantResult(t, "Can", input{counts: list(3, 3, 1, 1)}, 0)
	wantResult(t, "Can", input{counts: list(1, 1, 1)}, 0)
	wantResult(t, "Why", input{counts: list(3, 3, 1, 1)}, 2)
	wantError(t, "Why", input{counts: list(1, 1, 1)}, api.ErrSum)
	wantError(t, "Why", input{counts: list(2, 2, 1, 1)}, api.ErrClash)
	wantResult(t, "Proves", input{counts: list(3, 3, 1, 1), k: 2})
	wantError(t, "Proves", input{counts: list(3, 3, 1, 1), k: 1}, api.ErrProof)
	wantError(t, "Proves", input{counts: list(3, 3, 1, 1), k: 5}, api.ErrRange)
}

func TestExamplesOfMake(t *testing.T) {
	wantResult(t, "Make", input{counts: list(2, 2, 1, 1)}, 4, 0, 1, 0, 2, 1, 3)
	wantResult(t, "Make", input{counts: list(3, 1, 1, 1)}, 4, 0, 1, 0, 2, 0, 3)
	wantError(t, "Make", input{counts: list(3, 3, 1, 1)}, api.ErrLost)
	wantResult(t, "Make", input{counts: list(0)}, 1)
}

func TestExamplesOfCount(t *testing.T) {
	wantResult(t, "Count", input{counts: list(2, 2, 1, 1)}, 2)
	wantResult(t, "Count", input{counts: list(1, 1, 1, 1)}, 3)
	wantResult(t, "Count", input{counts: list(3, 1, 1, 1)}, 1)
	wantResult(t, "Count", input{counts: list(1, 1, 1)}, 0)
	wantResult(t, "Only", input{counts: list(3, 1, 1, 1)}, 1)
	wantResult(t, "Only", input{counts: list(1, 1, 1, 1)}, 0)
	wantError(t, "Only", input{counts: list(1, 1, 1)}, api.ErrLost)
}

func TestExamplesOfPlans(t *testing.T) {
	wantResult(t, "Counts", input{plan: two()}, 1, 1, 1, 1)
	wantResult(t, "Others", input{plan: two()}, 4, 0, 2, 0, 3, 1, 2, 1, 3)
	wantResult(t, "Trios", input{plan: two()}, 0)
	wantResult(t, "Trios", input{plan: plan(4, 0, 1, 0, 2, 0, 3)}, 1)
}

func TestExamplesOfCross(t *testing.T) {
	wantResult(t, "Cross", input{plan: two(), one: 0, two: 1}, 4, 0, 2, 1, 3)
	wantResult(t, "Cross", input{plan: two(), one: 0, two: 1, turned: true}, 4, 0, 3, 1, 2)
	wantError(t, "Cross", input{plan: two(), one: 0, two: 0}, api.ErrShape)
	wantError(t, "Cross", input{plan: two(), one: 0, two: 2}, api.ErrNone)
	chain := plan(4, 0, 1, 0, 2, 1, 3)
	wantError(t, "Cross", input{plan: chain, one: 1, two: 2}, api.ErrTwice)
	wantResult(t, "Cross", input{plan: chain, one: 1, two: 2, turned: true}, 4, 0, 1, 0, 3, 1, 2)
	wantError(t, "Cross", input{plan: chain, one: 0, two: 1}, api.ErrShape)
}

func TestExamplesOfCheck(t *testing.T) {
	wantError(t, "Check", input{}, api.ErrEmpty)
	wantError(t, "Check", input{counts: list(1, 2)}, api.ErrRange)
	wantError(t, "CheckPlan", input{plan: plan(4, 1, 1)}, api.ErrClash)
	wantError(t, "CheckPlan", input{plan: plan(4, 0, 1, 1, 0)}, api.ErrTwice)
	wantError(t, "CheckPlan", input{plan: plan(4, 0, 4)}, api.ErrNone)
}
