package keep_test

import (
	"math"
	"math/rand/v2"
	"slices"
	"testing"

	"switchgear/api"
	"switchgear/keep"
)

// solves calls Solve and compares; what it returns must be right.
func solves(t *testing.T, name string, g keep.Game, in []bool, control, rank []int) {
	t.Helper()
	r, e := keep.Solve(g)
	want := keep.Result{In: in, Control: control, Rank: rank}
	if e != api.OK || !sameResult(r, want) {
		t.Errorf("%s: %+v %d, not %+v", name, r, e, want)
	}
	if e := keep.Verify(g, r); e != api.OK {
		t.Errorf("%s: Verify: %d: %+v %+v", name, e, g, r)
	}
}

func TestChapter(t *testing.T) {
	solves(t, "example 1", chapter(), []bool{true, true, false}, []int{off, on, -1}, []int{-1, -1, 0})
	less, e := keep.Without(chapter(), on)
	if e != api.OK {
		t.Fatal(e)
	}
	solves(t, "example 2", less, []bool{false, false, false}, []int{-1, -1, -1}, []int{2, 1, 0})
	shocks, states, e := keep.Force(less, solved(t, less), cool, []int{off, off})
	if e != api.OK || !slices.Equal(shocks, []int{sun, sun}) || !slices.Equal(states, []int{warm, hot}) {
		t.Error("example 2:", shocks, states, e)
	}
	// What follows hot does not matter.
	for next := -1; next < 3; next++ {
		g := chapter()
		g.Next[8], g.Next[11] = next, next
		solves(t, "example 1", g, []bool{true, true, false}, []int{off, on, -1}, []int{-1, -1, 0})
	}
}

func TestSolve(t *testing.T) {
	yes, no := true, false
	solves(t, "one state that stays", line(goods(1), 0), []bool{yes}, []int{0}, []int{-1})
	solves(t, "one state that is not good", line([]bool{no}, 0), []bool{no}, []int{-1}, []int{0})
	solves(t, "one state and a disaster", line(goods(1), -1), []bool{no}, []int{-1}, []int{1})
	solves(t, "not good, and a disaster", line([]bool{no}, -1), []bool{no}, []int{-1}, []int{0})
	solves(t, "all are safe", line(goods(3), 1, 2, 0), goods(3), []int{0, 0, 0}, []int{-1, -1, -1})
	solves(t, "none is safe", line([]bool{yes, yes, no}, 1, 2, 0), []bool{no, no, no}, []int{-1, -1, -1}, []int{2, 1, 0})
	solves(t, "none is safe: disasters", line(goods(3), 2, -1, 1), []bool{no, no, no}, []int{-1, -1, -1}, []int{3, 1, 2})
	solves(t, "some are safe", line([]bool{yes, yes, yes, no, no}, 0, 0, 3, 0, 0), []bool{yes, yes, no, no, no}, []int{0, 0, -1, -1, -1}, []int{-1, -1, 1, 0, 0})
	solves(t, "from a state that is not good to a safe one", line([]bool{no, yes}, 1, 1), []bool{no, yes}, []int{-1, 0}, []int{0, -1})
	solves(t, "rounds", line([]bool{yes, yes, yes, yes, no}, 1, 2, 3, 4, 4), []bool{no, no, no, no, no}, []int{-1, -1, -1, -1, -1}, []int{4, 3, 2, 1, 0})

	// One state with controls that lead to a disaster with some shock, but the last two.
	g := keep.Game{States: 1, Controls: 4, Shocks: 2, Next: []int{-1, 0, 0, -1, 0, 0, 0, 0}, Good: goods(1)}
	solves(t, "the least of two controls", g, []bool{yes}, []int{2}, []int{-1})
	g.Next[4] = -1
	solves(t, "the last control", g, []bool{yes}, []int{3}, []int{-1})
	g.Next[7] = -1
	solves(t, "no control", g, []bool{no}, []int{-1}, []int{1})

	// State 0 is lost in the second round, and takes control 0 of state 2 with it.
	g = keep.Game{States: 4, Controls: 2, Shocks: 1, Good: []bool{yes, yes, yes, no}, Next: []int{1, 1, 3, 3, 0, 2, 0, 0}}
	solves(t, "a control that seems to keep in the first rounds", g, []bool{no, no, yes, no}, []int{-1, -1, 1, -1}, []int{2, 1, -1, 0})

	// With control 0 state 0 is at its end after 1 step, with control 1 after 3: the greatest number counts.
	g = keep.Game{States: 3, Controls: 2, Shocks: 1, Good: goods(3), Next: []int{-1, 1, 2, 2, -1, -1}}
	solves(t, "the greatest number of all controls", g, []bool{no, no, no}, []int{-1, -1, -1}, []int{3, 2, 1})

	// With shock 0 state 0 is at its end after 3 steps, with shock 1 after 2: the least number counts. A safe state does not count.
	g = keep.Game{States: 4, Controls: 1, Shocks: 3, Good: goods(4), Next: []int{1, 2, 3, 2, 2, 2, -1, 3, 3, 3, 3, 3}}
	solves(t, "the least number of all shocks", g, []bool{no, no, no, yes}, []int{-1, -1, -1, 0}, []int{2, 2, 1, -1})

	// A disaster has the rank 0, as a state that is not good.
	g = keep.Game{States: 2, Controls: 2, Shocks: 1, Good: []bool{yes, no}, Next: []int{-1, 1, 0, 0}}
	solves(t, "a disaster, or a state that is not good", g, []bool{no, no}, []int{-1, -1}, []int{1, 0})
}

// TestSolveLimits has games at the limits of states, controls and shocks.
func TestSolveLimits(t *testing.T) {
	out, none, ranks := make([]bool, 400), slices.Repeat([]int{-1}, 400), make([]int, 400)
	for i := range ranks {
		ranks[i] = i + 1
	}
	solves(t, "still", still(400, 16, 16), goods(400), make([]int, 400), none)
	solves(t, "400 rounds", downhill(400, 16, 16), out, none, ranks)
	solves(t, "400 rounds, one choice", downhill(400, 1, 1), out, none, ranks)
	// Only the last of all shocks of each control leads downwards.
	g := still(400, 16, 16)
	for i := 15; i < len(g.Next); i += 16 {
		g.Next[i]--
	}
	solves(t, "the last shock", g, out, none, ranks)
	// Only the last control of each state keeps it: with the others its last shock leads to a disaster.
	g = still(400, 16, 16)
	for i := 15; i < len(g.Next); i += 16 {
		if i%256 != 255 {
			g.Next[i] = -1
		}
	}
	solves(t, "the last control", g, goods(400), slices.Repeat([]int{15}, 400), none)
	// The last state is not good, and each other one leads to the next one.
	g = still(400, 16, 16)
	for i := range g.Next {
		g.Next[i] = min(399, g.Next[i]+1)
	}
	g.Good[399] = false
	slices.Reverse(ranks)
	for i := range ranks {
		ranks[i]--
	}
	solves(t, "399 rounds", g, out, none, ranks)
	solves(t, "sixteen controls", still(1, 16, 1), goods(1), []int{0}, []int{-1})
	solves(t, "sixteen shocks", downhill(1, 1, 16), []bool{false}, []int{-1}, []int{1})
}

// TestSolveRandom compares with the union of all sets that are kept, and with what shocks can force.
func TestSolveRandom(t *testing.T) {
	r := rand.New(rand.NewPCG(8, 1))
	met := map[string]int{}
	for range 6000 {
		g := randomGame(r, 8)
		want := tellSolve(g)
		solves(t, "random", g, want.In, want.Control, want.Rank)
		switch {
		case !slices.Contains(want.In, false):
			met["all"]++
		case !slices.Contains(want.In, true):
			met["none"]++
		default:
			met["some"]++
		}
		if slices.Max(want.Rank) > 2 {
			met["rounds"]++
		}
		if slices.Max(want.Control) > 0 {
			met["later controls"]++
		}
		if slices.Contains(g.Next, -1) {
			met["disasters"]++
		}
	}
	for _, name := range []string{"all", "none", "some", "rounds", "later controls", "disasters"} {
		if met[name] < 300 {
			t.Error("met:", name, met[name])
		}
	}
}

// TestRank checks the chapter's term for ranks of all states that are not in the safe set.
func TestRank(t *testing.T) {
	r := rand.New(rand.NewPCG(8, 2))
	met := 0
	for range 4000 {
		g := randomGame(r, 30)
		x := solved(t, g)
		for state, in := range x.In {
			want := 0
			switch {
			case in:
				want = -1
			case g.Good[state]:
				for control := range g.Controls {
					least := math.MaxInt - 1
					for shock := range g.Shocks {
						next := follows(g, state, control, shock)
						if next < 0 {
							least = 0
						} else if !x.In[next] {
							least = min(least, x.Rank[next])
						}
					}
					want = max(want, 1+least)
				}
				met++
			}
			if x.Rank[state] != want {
				t.Fatalf("%+v: %+v: state %d: %d", g, x, state, want)
			}
		}
	}
	if met < 5000 {
		t.Error("met:", met)
	}
}
