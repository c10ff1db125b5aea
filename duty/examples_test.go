package duty_test

import (
	"testing"

	"vitola/api"
)

func TestExamplesOfChecks(t *testing.T) {
	wantResult(t, "Reduced", input{f: of(6, 8)}, 3, 4)
	wantError(t, "Check", input{f: of(3, 3)}, api.ErrRange)
	wantError(t, "Check", input{f: of(1, 31)}, api.ErrRange)
	wantResult(t, "Sum", input{parts: list(2, 3, 7)}, 41, 42)
	wantResult(t, "Sum", input{parts: list(3, 6)}, 1, 2)
	wantResult(t, "Sum", input{parts: list(2, 3, 6)}, 1, 1)
	wantResult(t, "Sum", input{}, 0, 1)
}

func TestExamplesOfGreedyAndPairs(t *testing.T) {
	wantResult(t, "Greedy", input{f: of(3, 7)}, 3, 11, 231)
	wantResult(t, "Greedy", input{f: of(4, 5)}, 2, 4, 20)
	wantError(t, "Greedy", input{f: of(4, 17)}, api.ErrOver)
	wantResult(t, "Pairs", input{part: 4}, 5, 20, 6, 12)
	wantResult(t, "Pairs", input{part: 6}, 7, 42, 8, 24, 9, 18, 10, 15)
	wantResult(t, "Pairs", input{part: 1})
}

func TestExamplesOfTwoAndSides(t *testing.T) {
	wantResult(t, "Two", input{f: of(5, 6)}, 2, 3)
	wantResult(t, "Two", input{f: of(2, 7)}, 4, 28)
	wantError(t, "Two", input{f: of(3, 7)}, api.ErrLost)
	wantResult(t, "Sides", input{f: of(5, 6)}, 2, 3)
	wantResult(t, "Sides", input{f: of(2, 7)}, 1, 7)
	wantError(t, "Sides", input{f: of(3, 7)}, api.ErrLost)
}

func TestExamplesOfFewestAndWays(t *testing.T) {
	wantResult(t, "Fewest", input{f: of(4, 5)}, 2, 4, 20)
	wantResult(t, "Fewest", input{f: of(1, 5)}, 5)
	wantError(t, "Fewest", input{f: of(8, 11)}, api.ErrLost)
	wantResult(t, "Ways", input{f: of(1, 4), many: 2}, 2)
	wantResult(t, "Ways", input{f: of(1, 4), many: 1}, 1)
	wantResult(t, "Ways", input{f: of(5, 6), many: 2}, 1)
	wantError(t, "Ways", input{f: of(1, 4), many: 4}, api.ErrRange)
}

func TestExamplesOfDivideAndCents(t *testing.T) {
	wantResult(t, "Divide", input{parts: list(3, 6), index: 0}, 4, 6, 12)
	wantResult(t, "Divide", input{parts: list(3, 6), index: 1}, 3, 7, 42)
	wantError(t, "Divide", input{parts: list(2, 3), index: 0}, api.ErrTwice)
	wantError(t, "Divide", input{parts: list(60), index: 0}, api.ErrOver)
	wantError(t, "Divide", input{parts: list(3), index: 1}, api.ErrNone)
	wantResult(t, "Cents", input{total: 100, parts: list(3, 6)}, 33, 16, 1)
	wantResult(t, "Cents", input{total: 100, parts: list(2, 3, 7)}, 50, 33, 14, 0)
}
