package grade_test

import (
	"fmt"
	"math/bits"
	"slices"
	"testing"

	"vitola/api"
	"vitola/grade"
)

func distance(a, b []int) int {
	pairs, _ := grade.Differ(a, b)
	return len(pairs)
}

// P3.4: Between, for all orders of few bales, and for samples.
func TestBetween(t *testing.T) {
	next := dice(3)
	for w := range inputs() {
		all := orders(len(w.a))
		step := 1
		if len(all) > 24 {
			step = 1 + next(20)
		}
		for i := 0; i < len(all); i += step {
			checkBetween(t, w.a, w.b, all[i])
		}
		checkBetween(t, w.a, w.b, w.a)
		checkBetween(t, w.a, w.b, w.b)
	}
}

// P3.4, P3.11: an order is between two others just if its distances from both are together theirs.
func checkBetween(t *testing.T, a, b, x []int) {
	t.Helper()
	is, e := grade.Between(a, b, x)
	if want := modelBetween(a, b, x); is != want || e != api.OK {
		t.Fatalf("Between %v, %v, %v: %v %d, want %v", a, b, x, is, e, want)
	}
	if sum := distance(a, x) + distance(x, b); is != (sum == distance(a, b)) {
		t.Fatalf("Between %v, %v, %v: %v, but distances of %d together", a, b, x, is, sum)
	}
}

// P3.4, P3.11: Joint and First are those of all orders between, and do not change if a and b are exchanged.
func TestJointAndFirst(t *testing.T) {
	for w := range inputs() {
		all := modelAllBetween(w.a, w.b)
		for _, x := range []twin{w, {w.b, w.a}} {
			if n, e := grade.Joint(x.a, x.b); n != len(all) || e != api.OK {
				t.Fatalf("Joint of %v, %v: %d %d, want %d", x.a, x.b, n, e, len(all))
			}
			first, e := grade.First(x.a, x.b)
			wantList(t, fmt.Sprintf("First of %v, %v", x.a, x.b), first, e, all[0])
		}
	}
}

// P3.4: between an order and itself there is just this one, and between an order and itself turned round there are all.
func TestNearestAndFarthest(t *testing.T) {
	many := 1
	for bales := 1; bales <= 7; bales++ {
		many *= bales
		all := orders(bales)
		for i, a := range all {
			if i%37 != 0 && i != len(all)-1 {
				continue
			}
			if n, e := grade.Joint(a, a); n != 1 || e != api.OK {
				t.Errorf("Joint of %v and itself: %d %d", a, n, e)
			}
			first, e := grade.First(a, a)
			wantList(t, fmt.Sprintf("First of %v and itself", a), first, e, a)
			if n, e := grade.Joint(a, turnedRound(a)); n != many || e != api.OK {
				t.Errorf("Joint of %v and itself turned round: %d %d, want %d", a, n, e, many)
			}
			first, e = grade.First(a, turnedRound(a))
			wantList(t, fmt.Sprintf("First of %v and itself turned round", a), first, e, all[0])
		}
	}
}

// P3.5, P3.12: Join and Meet are the only ones that turn the fewest and the most pairs, and do not change if a and b are exchanged.
func TestJoinAndMeet(t *testing.T) {
	for w := range inputs() {
		joins, meets := modelJoin(w.a, w.b), modelMeet(w.a, w.b)
		if len(joins) != 1 || len(meets) != 1 {
			t.Fatalf("Join and Meet of %v, %v: %v %v", w.a, w.b, joins, meets)
		}
		for _, x := range []twin{w, {w.b, w.a}} {
			join, e := grade.Join(x.a, x.b)
			wantList(t, fmt.Sprintf("Join of %v, %v", x.a, x.b), join, e, joins[0])
			meet, e := grade.Meet(x.a, x.b)
			wantList(t, fmt.Sprintf("Meet of %v, %v", x.a, x.b), meet, e, meets[0])
		}
	}
}

// P3.12: Join is below all that turn what a or b turns, and Meet above all that turn only what both do.
func TestLeastAndGreatest(t *testing.T) {
	for w := range inputs() {
		join, _ := grade.Join(w.a, w.b)
		meet, _ := grade.Meet(w.a, w.b)
		a, b := modelTurned(w.a), modelTurned(w.b)
		for _, x := range orders(len(w.a)) {
			turned := modelTurned(x)
			if (a|b)&^turned == 0 && modelTurned(join)&^turned != 0 {
				t.Fatalf("Join of %v, %v: %v, but %v turns not all of it", w.a, w.b, join, x)
			}
			if turned&^(a&b) == 0 && turned&^modelTurned(meet) != 0 {
				t.Fatalf("Meet of %v, %v: %v, but %v turns more", w.a, w.b, meet, x)
			}
		}
	}
}

// P3.12: Meet of a, and of Join of a and b, is a; and the other way round.
func TestAbsorbed(t *testing.T) {
	for _, some := range []func(func(twin) bool){twins(5), samples(600)} {
		for w := range some {
			join, _ := grade.Join(w.a, w.b)
			meet, e := grade.Meet(w.a, join)
			wantList(t, fmt.Sprintf("Meet of %v, %v", w.a, join), meet, e, w.a)
			meet, _ = grade.Meet(w.a, w.b)
			join, e = grade.Join(w.a, meet)
			wantList(t, fmt.Sprintf("Join of %v, %v", w.a, meet), join, e, w.a)
		}
	}
}

// P3.14: if both orders are turned round Joint stays, and Join of these is Meet turned round.
func TestTurnedRound(t *testing.T) {
	for _, some := range []func(func(twin) bool){twins(5), samples(600)} {
		for w := range some {
			a, b := turnedRound(w.a), turnedRound(w.b)
			n, _ := grade.Joint(w.a, w.b)
			if m, e := grade.Joint(a, b); m != n || e != api.OK {
				t.Fatalf("Joint of %v, %v: %d, turned round: %d %d", w.a, w.b, n, m, e)
			}
			meet, _ := grade.Meet(w.a, w.b)
			join, e := grade.Join(a, b)
			wantList(t, fmt.Sprintf("Join of %v, %v", a, b), join, e, turnedRound(meet))
			if distance(a, b) != distance(w.a, w.b) {
				t.Fatalf("%v, %v: distance %d, turned round: %d", w.a, w.b, distance(w.a, w.b), distance(a, b))
			}
		}
	}
}

// P3.4: all orders on a shortest way are between its ends.
func TestWayIsBetween(t *testing.T) {
	for w := range samples(300) {
		way, _ := grade.Way(w.a, w.b)
		x := slices.Clone(w.a)
		for _, i := range way {
			x[i], x[i+1] = x[i+1], x[i]
			if is, e := grade.Between(w.a, w.b, x); !is || e != api.OK {
				t.Fatalf("Between %v, %v, %v: %v %d", w.a, w.b, x, is, e)
			}
		}
	}
}

// P3.5: Join turns no fewer pairs than each of both, and Meet no more.
func TestJoinTurnsMore(t *testing.T) {
	for w := range samples(300) {
		join, _ := grade.Join(w.a, w.b)
		meet, _ := grade.Meet(w.a, w.b)
		for _, x := range [][]int{w.a, w.b} {
			n := bits.OnesCount64(modelTurned(x))
			if n > bits.OnesCount64(modelTurned(join)) || n < bits.OnesCount64(modelTurned(meet)) {
				t.Fatalf("%v, %v: Join %v, Meet %v", w.a, w.b, join, meet)
			}
		}
	}
}
