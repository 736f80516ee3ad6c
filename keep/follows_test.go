package keep_test

import (
	"math/rand/v2"
	"slices"
	"testing"

	"switchgear/api"
	"switchgear/keep"
)

// TestAcceptedIsSafe checks that what Verify accepts is the safe set, and that no rank is lower than that of Solve.
func TestAcceptedIsSafe(t *testing.T) {
	r := rand.New(rand.NewPCG(8, 12))
	met := [2]int{}
	for range 30000 {
		g := randomGame(r, 7)
		best := solved(t, g)
		x, _ := wrongly(r, g, best)
		if keep.Verify(g, x) != api.OK {
			continue
		}
		if !slices.Equal(x.In, best.In) {
			t.Fatalf("%+v: %+v is accepted", g, x)
		}
		for state, rank := range x.Rank {
			if rank < best.Rank[state] {
				t.Fatalf("%+v: %+v is accepted: a rank is too low", g, x)
			}
			if rank > best.Rank[state] {
				met[0]++
			}
		}
		met[1]++
	}
	if slices.Min(met[:]) < 2000 {
		t.Error("met:", met)
	}
}

// TestAcceptedOfAll tries all certificates of small games: those that are accepted have the safe set in.
func TestAcceptedOfAll(t *testing.T) {
	r := rand.New(rand.NewPCG(8, 13))
	accepted := 0
	for range 60 {
		g := randomGame(r, 3)
		g.Controls = min(g.Controls, 2)
		g.Next = g.Next[:g.States*g.Controls*g.Shocks]
		safe := tellSafe(g)
		low, high := make([]int, 0, 9), make([]int, 0, 9)
		for range g.States {
			low, high = append(low, 0, -1, -1), append(high, 1, g.Controls-1, g.States)
		}
		for l := range lists(low, high) {
			var x keep.Result
			for i := 0; i < len(l); i += 3 {
				x.In, x.Control, x.Rank = append(x.In, l[i] == 1), append(x.Control, l[i+1]), append(x.Rank, l[i+2])
			}
			if keep.Verify(g, x) != api.OK {
				continue
			}
			accepted++
			if !slices.Equal(x.In, safe) {
				t.Fatalf("%+v: %+v is accepted", g, x)
			}
		}
	}
	if accepted < 60 {
		t.Error("met:", accepted)
	}
}

// TestForceInTime checks that no way of choosing controls avoids a disaster, or a state that is not good, for more steps than the rank.
func TestForceInTime(t *testing.T) {
	r := rand.New(rand.NewPCG(8, 14))
	met := [5]int{}
	for range 8000 {
		g := randomGame(r, 9)
		x := later(r, solved(t, g))
		state := stateOf(r, x, false)
		if state < 0 || x.Rank[state] > 5 {
			continue
		}
		met[min(4, x.Rank[state])]++
		none, all := make([]int, x.Rank[state]), slices.Repeat([]int{g.Controls - 1}, x.Rank[state])
		for controls := range lists(none, all) {
			shocks, states, e := keep.Force(g, x, state, controls)
			if e != api.OK || len(shocks) != len(states) || len(states) > x.Rank[state] {
				t.Fatalf("%+v %+v: %d %v: %v %v %d", g, x, state, controls, shocks, states, e)
			}
			now := state
			for i, next := range states {
				if now < 0 || !g.Good[now] || follows(g, now, controls[i], shocks[i]) != next || next >= 0 && x.Rank[next] >= x.Rank[now] {
					t.Fatalf("%+v %+v: %d %v: %v %v", g, x, state, controls, shocks, states)
				}
				now = next
			}
			if now >= 0 && g.Good[now] {
				t.Fatalf("%+v %+v: %d %v: %v %v", g, x, state, controls, shocks, states)
			}
		}
	}
	if slices.Min(met[:]) < 100 {
		t.Error("met:", met)
	}
}

// TestRankIsNeeded checks that with fewer steps than the rank of Solve a disaster, or a state that is not good, can be avoided: controls can be chosen so whatever shocks come.
func TestRankIsNeeded(t *testing.T) {
	r := rand.New(rand.NewPCG(8, 15))
	met := 0
	for range 4000 {
		g := randomGame(r, 10)
		x := solved(t, g)
		for state, rank := range x.Rank {
			if rank > 1 {
				met++
			}
			if rank > 0 && tellForced(g, rank-1)[state] || rank >= 0 && !tellForced(g, rank)[state] {
				t.Fatalf("%+v %+v: %d", g, x, state)
			}
		}
	}
	if met < 1000 {
		t.Error("met:", met)
	}
}

// TestPlayStays checks that Play never leaves the set, and meets only good states, whatever shocks come.
func TestPlayStays(t *testing.T) {
	r := rand.New(rand.NewPCG(8, 16))
	met := 0
	for range 4000 {
		g := randomGame(r, 12)
		x, _ := wrongly(r, g, solved(t, g))
		state := stateOf(r, x, true)
		if state < 0 || keep.Verify(g, x) != api.OK {
			continue
		}
		met++
		low, high := make([]int, 4), slices.Repeat([]int{g.Shocks - 1}, 4)
		for shocks := range lists(low, high) {
			states, e := keep.Play(g, x, state, shocks)
			if e != api.OK || len(states) != 4 {
				t.Fatalf("%+v %+v: %d %v: %v %d", g, x, state, shocks, states, e)
			}
			for _, next := range states {
				if next < 0 || !x.In[next] || !g.Good[next] {
					t.Fatalf("%+v %+v: %d %v: %v", g, x, state, shocks, states)
				}
			}
		}
	}
	if met < 300 {
		t.Error("met:", met)
	}
}

// TestControlLess checks that with a control less no state is safe that was not.
func TestControlLess(t *testing.T) {
	r := rand.New(rand.NewPCG(8, 17))
	met := [2]int{}
	for range 5000 {
		g := randomGame(r, 10)
		if g.Controls == 1 {
			continue
		}
		x := solved(t, g)
		less, e := keep.Without(g, r.IntN(g.Controls))
		if e != api.OK {
			t.Fatal(g, e)
		}
		y := solved(t, less)
		for state := range g.States {
			if y.In[state] && !x.In[state] {
				t.Fatalf("%+v %+v: %+v %+v", g, less, x, y)
			}
			if !y.In[state] && !x.In[state] && y.Rank[state] > x.Rank[state] {
				t.Fatalf("%+v %+v: %+v %+v: a rank is higher", g, less, x, y)
			}
		}
		if slices.Equal(x.In, y.In) {
			met[0]++
		} else {
			met[1]++
		}
	}
	if slices.Min(met[:]) < 300 {
		t.Error("met:", met)
	}
}

// TestSafeProduct checks that the safe set of a product is the product of the safe sets.
func TestSafeProduct(t *testing.T) {
	r := rand.New(rand.NewPCG(8, 18))
	met := [3]int{}
	for range 3000 {
		a, b := randomGame(r, 6), randomGame(r, 6)
		x, y, both := solved(t, a), solved(t, b), solved(t, multiplied(t, a, b))
		safe := 0
		for i := range a.States {
			for k := range b.States {
				if both.In[i*b.States+k] != (x.In[i] && y.In[k]) {
					t.Fatalf("%+v %+v: %+v %+v %+v", a, b, x, y, both)
				}
				if both.In[i*b.States+k] {
					safe++
				}
			}
		}
		switch safe {
		case 0:
			met[0]++
		case a.States * b.States:
			met[1]++
		default:
			met[2]++
		}
	}
	if slices.Min(met[:]) < 100 {
		t.Error("met:", met)
	}
}
