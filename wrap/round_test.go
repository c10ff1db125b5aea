package wrap_test

import (
	"slices"
	"testing"

	"vitola/api"
	"vitola/wrap"
)

// P5.2: Mark of each turn.
func TestMark(t *testing.T) {
	for r := range rings(1, 60) {
		for turn, want := range r.marks {
			mark, e := wrap.Mark(r.w, turn)
			wantNumber(t, "Mark", r.w, turn, mark, e, want, api.OK)
		}
	}
	for marks, step := range steps(61, 100) {
		whole := wound(marks, step, different(marks, step))
		for turn, want := range modelMarks(marks, step, whole.Turns) {
			mark, e := wrap.Mark(whole, turn)
			wantNumber(t, "Mark", whole, turn, mark, e, want, api.OK)
		}
	}
}

// P5.2: Which of each mark, with a turn of the wrapper there or none.
func TestWhich(t *testing.T) {
	for r := range rings(1, 60) {
		for mark := range r.w.Marks {
			want, f := slices.Index(r.marks, mark), api.OK
			if want < 0 {
				want, f = 0, api.ErrLost
			}
			turn, e := wrap.Which(r.w, mark)
			wantNumber(t, "Which", r.w, mark, turn, e, want, f)
		}
	}
}

// F6: the mark of a turn leads back to the turn.
func TestMarkAndWhich(t *testing.T) {
	for r := range rings(61, 100) {
		for turn := 0; turn < r.w.Turns; turn += 1 + r.w.Step%3 {
			mark, _ := wrap.Mark(r.w, turn)
			back, e := wrap.Which(r.w, mark)
			wantNumber(t, "Which", r.w, mark, back, e, turn, api.OK)
		}
	}
}

// P5.3: Round, Gaps and Widths.
func TestRound(t *testing.T) {
	for r := range rings(1, 100) {
		round, e := wrap.Round(r.w)
		wantList(t, "Round", r.w, round, e, r.round)
		gaps, e := wrap.Gaps(r.w)
		wantList(t, "Gaps", r.w, gaps, e, r.gaps)
		if widths, e := wrap.Widths(r.w); !slices.Equal(widths, modelWidths(r.gaps)) || e != api.OK {
			t.Fatalf("Widths of %v: %v %d, want %v", r.w, widths, e, modelWidths(r.gaps))
		}
	}
}

// P5.4: Next and Before of each turn.
func TestNext(t *testing.T) {
	for r := range rings(1, 100) {
		for turn := 0; turn < r.w.Turns; turn += 1 + r.w.Marks/50*2 {
			next, before := r.follows(turn)
			n, e := wrap.Next(r.w, turn)
			wantNumber(t, "Next", r.w, turn, n, e, next, api.OK)
			n, e = wrap.Before(r.w, turn)
			wantNumber(t, "Before", r.w, turn, n, e, before, api.OK)
		}
	}
}

// P5.4: each leads back from where the other one leads.
func TestNextAndBefore(t *testing.T) {
	for r := range rings(1, 30) {
		for turn := range r.w.Turns {
			next, _ := wrap.Next(r.w, turn)
			back, e := wrap.Before(r.w, next)
			wantNumber(t, "Before", r.w, next, back, e, turn, api.OK)
			before, _ := wrap.Before(r.w, turn)
			back, e = wrap.Next(r.w, before)
			wantNumber(t, "Next", r.w, before, back, e, turn, api.OK)
		}
	}
}

// P5.5: between which turns one more would begin.
func TestDivides(t *testing.T) {
	for r := range rings(1, 100) {
		from, to, e := wrap.Divides(r.w)
		if r.w.Turns == different(r.w.Marks, r.w.Step) {
			if from != 0 || to != 0 || e != api.ErrLost {
				t.Fatalf("Divides of %v: %d and %d, %d", r.w, from, to, e)
			}
			continue
		}
		mark := modelMarks(r.w.Marks, r.w.Step, r.w.Turns+1)[r.w.Turns]
		// The last one of the turns around the circle that begin before the mark.
		place := -1
		for _, turn := range r.round {
			if r.marks[turn] < mark {
				place++
			}
		}
		want := r.round[place]
		next, _ := r.follows(want)
		if from != want || to != next || e != api.OK {
			t.Fatalf("Divides of %v: %d and %d, %d, want %d and %d", r.w, from, to, e, want, next)
		}
	}
}
