package keep_test

import (
	"math/rand/v2"
	"slices"
	"testing"

	"switchgear/api"
	"switchgear/keep"
)

// States and shocks of the chapter's first example.
const (
	cool, warm, hot = 0, 1, 2
	calm, sun       = 0, 1
	off, on         = 0, 1
)

// chapter returns the game of the chapter's first example: hot stays hot.
func chapter() keep.Game {
	return keep.Game{
		States: 3, Controls: 2, Shocks: 2,
		Next: []int{
			cool, warm, cool, cool, // cool with off, and with on
			warm, hot, cool, warm,
			hot, hot, hot, hot,
		},
		Good: []bool{true, true, false},
	}
}

// line returns a game with one control and one shock: what follows each state.
func line(good []bool, next ...int) keep.Game {
	return keep.Game{States: len(good), Controls: 1, Shocks: 1, Next: next, Good: good}
}

// goods returns n states that are good.
func goods(n int) []bool { return slices.Repeat([]bool{true}, n) }

// still returns a game of which all states are good, and stay what they are.
func still(states, controls, shocks int) keep.Game {
	g := keep.Game{States: states, Controls: controls, Shocks: shocks, Good: goods(states)}
	for state := range states {
		g.Next = append(g.Next, slices.Repeat([]int{state}, controls*shocks)...)
	}
	return g
}

// downhill returns a game of which each state leads to the one before it, and the first to a disaster.
func downhill(states, controls, shocks int) keep.Game {
	g := still(states, controls, shocks)
	for i := range g.Next {
		g.Next[i]--
	}
	return g
}

// copied returns an equal game that shares no memory with g.
func copied(g keep.Game) keep.Game {
	g.Next, g.Good = slices.Clone(g.Next), slices.Clone(g.Good)
	return g
}

// copiedResult returns an equal certificate that shares no memory with r.
func copiedResult(r keep.Result) keep.Result {
	return keep.Result{In: slices.Clone(r.In), Control: slices.Clone(r.Control), Rank: slices.Clone(r.Rank)}
}

// sameGame reports whether two games are equal.
func sameGame(a, b keep.Game) bool {
	return a.States == b.States && a.Controls == b.Controls && a.Shocks == b.Shocks && slices.Equal(a.Next, b.Next) && slices.Equal(a.Good, b.Good)
}

// sameResult reports whether two certificates are equal.
func sameResult(a, b keep.Result) bool {
	return slices.Equal(a.In, b.In) && slices.Equal(a.Control, b.Control) && slices.Equal(a.Rank, b.Rank)
}

// solved returns the certificate of a game, which must have no error.
func solved(t *testing.T, g keep.Game) keep.Result {
	t.Helper()
	r, e := keep.Solve(g)
	if e != api.OK {
		t.Fatalf("Solve: error %d: %+v", e, g)
	}
	return r
}

// follows returns the state that follows, by the chapter's words.
func follows(g keep.Game, state, control, shock int) int {
	return g.Next[(state*g.Controls+control)*g.Shocks+shock]
}

// tellKeeper returns the least control with which each shock leads from a state to a state of a set, or -1.
func tellKeeper(g keep.Game, set []bool, state int) int {
	for control := range g.Controls {
		keeps := true
		for shock := range g.Shocks {
			next := follows(g, state, control, shock)
			keeps = keeps && next >= 0 && set[next]
		}
		if keeps {
			return control
		}
	}
	return -1
}

// tellKept reports whether a set of states is kept, by the chapter's words.
func tellKept(g keep.Game, set []bool) bool {
	for state, in := range set {
		if in && (!g.Good[state] || tellKeeper(g, set, state) < 0) {
			return false
		}
	}
	return true
}

// tellSafe returns the union of all sets of states that are kept: it tries all sets.
func tellSafe(g keep.Game) []bool {
	safe := make([]bool, g.States)
	for number := range 1 << g.States {
		set := make([]bool, g.States)
		for state := range set {
			set[state] = number>>state&1 == 1
		}
		if !tellKept(g, set) {
			continue
		}
		for state, in := range set {
			safe[state] = safe[state] || in
		}
	}
	return safe
}

// tellForced returns, for each state, whether shocks can be chosen so that a disaster, or a state that is not good, comes in at most some steps, whatever controls are chosen.
func tellForced(g keep.Game, steps int) []bool {
	before := make([]bool, g.States)
	if steps > 0 {
		before = tellForced(g, steps-1)
	}
	now := make([]bool, g.States)
	for state := range now {
		forced := steps > 0
		for control := range g.Controls {
			some := false
			for shock := range g.Shocks {
				next := follows(g, state, control, shock)
				some = some || next < 0 || before[next]
			}
			forced = forced && some
		}
		now[state] = forced || !g.Good[state]
	}
	return now
}

// tellSolve returns the certificate that Solve should return.
func tellSolve(g keep.Game) keep.Result {
	r := keep.Result{In: tellSafe(g), Control: slices.Repeat([]int{-1}, g.States), Rank: slices.Repeat([]int{-1}, g.States)}
	for state, in := range r.In {
		if in {
			r.Control[state] = tellKeeper(g, r.In, state)
		}
	}
	for steps := g.States; steps >= 0; steps-- {
		for state, forced := range tellForced(g, steps) {
			if forced {
				r.Rank[state] = steps
			}
		}
	}
	return r
}

// tellRight reports whether a certificate is right, by the chapter's words.
func tellRight(g keep.Game, r keep.Result) bool {
	if len(r.In) != g.States || len(r.Control) != g.States || len(r.Rank) != g.States {
		return false
	}
	for state := range g.States {
		control, rank := r.Control[state], r.Rank[state]
		if r.In[state] {
			if !g.Good[state] || control < 0 || control >= g.Controls || rank != -1 {
				return false
			}
			for shock := range g.Shocks {
				if next := follows(g, state, control, shock); next < 0 || !r.In[next] {
					return false
				}
			}
			continue
		}
		if control != -1 || rank < 0 || rank == 0 && g.Good[state] {
			return false
		}
		for control := range g.Controls {
			lower := rank == 0
			for shock := range g.Shocks {
				next := follows(g, state, control, shock)
				lower = lower || next < 0 || !r.In[next] && r.Rank[next] < rank
			}
			if !lower {
				return false
			}
		}
	}
	return true
}

// tellAnswer returns the shock that answers a control, by the chapter's words.
func tellAnswer(g keep.Game, r keep.Result, state, control int) int {
	for shock := range g.Shocks {
		if follows(g, state, control, shock) < 0 {
			return shock
		}
	}
	best, lowest := -1, 0
	for shock := g.Shocks - 1; shock >= 0; shock-- {
		next := follows(g, state, control, shock)
		if !r.In[next] && (best < 0 || r.Rank[next] <= lowest) {
			best, lowest = shock, r.Rank[next]
		}
	}
	return best
}

// tellForce returns what Force should return.
func tellForce(g keep.Game, r keep.Result, state int, controls []int) (shocks, states []int, e api.Errno) {
	for state >= 0 && g.Good[state] {
		if len(controls) == 0 {
			return nil, nil, api.ErrTime
		}
		shock := tellAnswer(g, r, state, controls[0])
		state = follows(g, state, controls[0], shock)
		shocks, states = append(shocks, shock), append(states, state)
		controls = controls[1:]
	}
	return shocks, states, api.OK
}

// from returns a number from low to high.
func from(r *rand.Rand, low, high int) int { return low + r.IntN(high-low+1) }

// randomGame returns a valid game with at most so many states, and at most three controls and shocks.
func randomGame(r *rand.Rand, states int) keep.Game {
	g := keep.Game{States: from(r, 1, states), Controls: from(r, 1, 3), Shocks: from(r, 1, 3)}
	disasters, bad, near := r.IntN(12), r.IntN(8), r.IntN(2) > 0
	for range g.States {
		g.Good = append(g.Good, r.IntN(12) >= bad)
	}
	for i := range g.States * g.Controls * g.Shocks {
		next := r.IntN(g.States)
		if near {
			// A state leads to one close to it: so ranks are of many rounds.
			next = min(g.States-1, max(0, i/(g.Controls*g.Shocks)+from(r, -1, 1)))
		}
		if r.IntN(100) < disasters {
			next = -1
		}
		g.Next = append(g.Next, next)
	}
	return g
}

// chosen returns a list of some numbers from 0 to n - 1.
func chosen(r *rand.Rand, count, n int) []int {
	list := make([]int, count)
	for i := range list {
		list[i] = r.IntN(n)
	}
	return list
}

// stateOf returns a state that is in, or one that is not, or -1 if there is none.
func stateOf(r *rand.Rand, x keep.Result, in bool) int {
	var list []int
	for state, is := range x.In {
		if is == in {
			list = append(list, state)
		}
	}
	if len(list) == 0 {
		return -1
	}
	return list[r.IntN(len(list))]
}

// later returns a right certificate whose ranks are higher than those of another one, as far as they may be.
func later(r *rand.Rand, x keep.Result) keep.Result {
	x = copiedResult(x)
	scale, more := from(r, 1, 3), r.IntN(3)
	for state, rank := range x.Rank {
		if rank > 0 {
			x.Rank[state] = rank*scale + more
		}
	}
	return x
}
