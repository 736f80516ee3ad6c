package keep_test

import (
	"math"
	"math/rand/v2"
	"slices"
	"testing"

	"switchgear/api"
	"switchgear/keep"
)

// played calls Play and compares.
func played(t *testing.T, name string, g keep.Game, r keep.Result, state int, shocks, want []int, err api.Errno) {
	t.Helper()
	if l, e := keep.Play(g, r, state, shocks); !slices.Equal(l, want) || e != err {
		t.Errorf("%s: %v %d, not %v %d", name, l, e, want, err)
	}
}

func TestPlay(t *testing.T) {
	g := chapter()
	r := solved(t, g)
	played(t, "from cool", g, r, cool, []int{calm, calm, sun, calm, sun}, []int{cool, cool, warm, cool, warm}, api.OK)
	played(t, "from warm", g, r, warm, []int{sun, sun, calm, sun, calm}, []int{warm, warm, cool, warm, cool}, api.OK)
	played(t, "one shock", g, r, warm, []int{calm}, []int{cool}, api.OK)
	played(t, "no shock", g, r, cool, nil, nil, api.OK)
	played(t, "an empty list", g, r, warm, []int{}, nil, api.OK)
	played(t, "not in", g, r, hot, []int{calm}, nil, api.ErrState)
	played(t, "not in, and no shock", g, r, hot, nil, nil, api.ErrState)
	for _, n := range []int{-1, -2, 3, 400, math.MinInt, math.MaxInt} {
		played(t, "no state", g, r, n, []int{calm}, nil, api.ErrArg)
		if n != 3 {
			continue
		}
		played(t, "no state, and no shock", g, r, n, nil, nil, api.ErrArg)
	}
	for _, n := range []int{-1, 2, 16, math.MinInt, math.MaxInt} {
		played(t, "no shock of the game", g, r, cool, []int{n}, nil, api.ErrArg)
		played(t, "the last one is no shock", g, r, cool, []int{calm, sun, n}, nil, api.ErrArg)
		played(t, "no shock, and not in", g, r, hot, []int{n}, nil, api.ErrArg)
	}
	// The certificate's control is used, not the least one.
	r.Control[cool] = on
	played(t, "another control", g, r, cool, []int{sun, sun, calm}, []int{cool, cool, cool}, api.OK)
	r.Control[cool] = 2
	played(t, "a wrong certificate", g, r, cool, []int{sun}, nil, api.ErrFalse)
	played(t, "no certificate", g, keep.Result{}, cool, []int{sun}, nil, api.ErrFalse)
}

func TestPlayLong(t *testing.T) {
	g := chapter()
	r := solved(t, g)
	shocks := slices.Repeat([]int{sun, calm}, keep.MaxPlays/2)
	want := slices.Repeat([]int{warm, cool}, keep.MaxPlays/2)
	played(t, "10000 shocks", g, r, cool, shocks, want, api.OK)
	played(t, "10001 shocks", g, r, cool, append(shocks, calm), nil, api.ErrMany)
	played(t, "10001 shocks from a state that is not in", g, r, hot, append(shocks, calm), nil, api.ErrMany)
	played(t, "10001 shocks, the last is none", g, r, cool, append(shocks, 2), nil, api.ErrArg)
	played(t, "many shocks", g, r, cool, slices.Repeat(shocks, 9), nil, api.ErrMany)
	great := still(400, 16, 16)
	played(t, "a great game", great, solved(t, great), 399, slices.Repeat([]int{15}, keep.MaxPlays), slices.Repeat([]int{399}, keep.MaxPlays), api.OK)
	played(t, "a great game, no state", great, solved(t, great), 400, nil, nil, api.ErrArg)
	played(t, "a great game, no shock", great, solved(t, great), 0, []int{16}, nil, api.ErrArg)
}

// TestPlayRandom compares with the chapter's words; the states that follow are in.
func TestPlayRandom(t *testing.T) {
	r := rand.New(rand.NewPCG(8, 4))
	met := 0
	for range 6000 {
		g := randomGame(r, 12)
		x := solved(t, g)
		state := stateOf(r, x, true)
		if state < 0 {
			continue
		}
		met++
		shocks := chosen(r, from(r, 0, 30), g.Shocks)
		var want []int
		for now, rest := state, shocks; len(rest) > 0; rest = rest[1:] {
			now = follows(g, now, x.Control[now], rest[0])
			if !x.In[now] {
				t.Fatalf("%+v %+v: it leaves the set with %v from %d", g, x, shocks, state)
			}
			want = append(want, now)
		}
		played(t, "random", g, x, state, shocks, want, api.OK)
	}
	if met < 2000 {
		t.Error("met:", met)
	}
}

// forced calls Force and compares.
func forced(t *testing.T, name string, g keep.Game, r keep.Result, state int, controls, wantShocks, wantStates []int, err api.Errno) {
	t.Helper()
	if shocks, states, e := keep.Force(g, r, state, controls); !slices.Equal(shocks, wantShocks) || !slices.Equal(states, wantStates) || e != err {
		t.Errorf("%s: %v %v %d, not %v %v %d", name, shocks, states, e, wantShocks, wantStates, err)
	}
}

func TestForce(t *testing.T) {
	g := chapter()
	r := solved(t, g)
	forced(t, "a state that is not good", g, r, hot, nil, nil, nil, api.OK)
	forced(t, "a state that is not good, and controls", g, r, hot, []int{on, off}, nil, nil, api.OK)
	forced(t, "in", g, r, cool, []int{off, off}, nil, nil, api.ErrState)
	forced(t, "in, and no control", g, r, warm, nil, nil, nil, api.ErrState)
	for _, n := range []int{-1, -2, 3, 400, math.MinInt, math.MaxInt} {
		forced(t, "no state", g, r, n, []int{off}, nil, nil, api.ErrArg)
	}
	for _, n := range []int{-1, 2, 16, math.MinInt, math.MaxInt} {
		forced(t, "no control of the game", g, r, hot, []int{n}, nil, nil, api.ErrArg)
		forced(t, "no control, and in", g, r, cool, []int{off, n}, nil, nil, api.ErrArg)
	}
	r.Rank[hot] = -1
	forced(t, "a wrong certificate", g, r, hot, nil, nil, nil, api.ErrFalse)

	// Two steps are needed.
	g = line([]bool{true, true, false}, 1, 2, 0)
	r = solved(t, g)
	forced(t, "just enough controls", g, r, 0, []int{0, 0}, []int{0, 0}, []int{1, 2}, api.OK)
	forced(t, "controls that go on after the end", g, r, 0, []int{0, 0, 0, 0, 0}, []int{0, 0}, []int{1, 2}, api.OK)
	forced(t, "controls that end too early", g, r, 0, []int{0}, nil, nil, api.ErrTime)
	forced(t, "no controls", g, r, 0, nil, nil, nil, api.ErrTime)
	forced(t, "an empty list", g, r, 1, []int{}, nil, nil, api.ErrTime)
	forced(t, "one step", g, r, 1, []int{0}, []int{0}, []int{2}, api.OK)
	forced(t, "after the end there is none", g, r, 1, []int{0, 1}, nil, nil, api.ErrArg)
	forced(t, "too early, and no control", g, r, 0, []int{1}, nil, nil, api.ErrArg)
}

// TestForceAnswers has states from which several shocks are possible.
func TestForceAnswers(t *testing.T) {
	yes, no := true, false
	// States 1 and 2 have the rank 1, states 3 and 4 the rank 0, state 5 is safe.
	game := func(first ...int) keep.Game {
		g := keep.Game{States: 6, Controls: 1, Shocks: 4, Good: []bool{yes, yes, yes, no, no, yes}}
		g.Next = slices.Concat(first, []int{3, 3, 5, 5, 4, -1, 3, 4}, slices.Repeat([]int{5}, 12))
		return g
	}
	for _, c := range []struct {
		name           string
		next           []int
		shocks, states []int
	}{
		{"a disaster", []int{5, 3, -1, 5}, []int{2}, []int{-1}},
		{"the least of two disasters", []int{3, -1, 5, -1}, []int{1}, []int{-1}},
		{"the least of all disasters", []int{-1, -1, -1, -1}, []int{0}, []int{-1}},
		{"a disaster before a state with the rank 0", []int{3, 4, 3, -1}, []int{3}, []int{-1}},
		{"the lowest rank", []int{5, 1, 4, 2}, []int{2}, []int{4}},
		{"the least of two with the lowest rank", []int{1, 4, 5, 3}, []int{1}, []int{4}},
		{"not a safe state", []int{5, 5, 5, 3}, []int{3}, []int{3}},
		{"the first one", []int{3, 4, 1, 5}, []int{0}, []int{3}},
		{"the least of two with the rank 1", []int{5, 2, 1, 5}, []int{1, 1}, []int{2, -1}},
		{"itself is higher", []int{0, 0, 1, 0}, []int{2, 0}, []int{1, 3}},
	} {
		g := game(c.next...)
		forced(t, c.name, g, solved(t, g), 0, []int{0, 0, 0}, c.shocks, c.states, api.OK)
	}
	// The rank of the certificate counts, not that of Solve.
	g := game(1, 2, 5, 5)
	r := solved(t, g)
	forced(t, "of Solve", g, r, 0, []int{0, 0}, []int{0, 0}, []int{1, 3}, api.OK)
	r.Rank[0], r.Rank[1] = 9, 7
	forced(t, "state 1 has a higher rank", g, r, 0, []int{0, 0}, []int{1, 1}, []int{2, -1}, api.OK)
	r.Rank[1], r.Rank[2] = 7, 7
	forced(t, "both have a higher rank", g, r, 0, []int{0, 0}, []int{0, 0}, []int{1, 3}, api.OK)
	// A state that is not good ends it, whatever its rank is.
	g = line([]bool{yes, no, no}, 1, 2, 0)
	r = solved(t, g)
	r.Rank[0], r.Rank[1] = 2, 1
	forced(t, "not good, with the rank 1", g, r, 0, []int{0, 0}, []int{0}, []int{1}, api.OK)
	forced(t, "from there", g, r, 1, nil, nil, nil, api.OK)
	// Each control has an answer of its own.
	g = keep.Game{States: 2, Controls: 2, Shocks: 2, Next: []int{-1, 0, 0, 1, 1, 1, 1, 1}, Good: []bool{yes, no}}
	r = solved(t, g)
	forced(t, "the first control", g, r, 0, []int{0}, []int{0}, []int{-1}, api.OK)
	forced(t, "the second control", g, r, 0, []int{1}, []int{1}, []int{1}, api.OK)
}

func TestForceLong(t *testing.T) {
	g := downhill(400, 16, 16)
	r := solved(t, g)
	controls := slices.Repeat([]int{15}, 400)
	states := make([]int, 400)
	for i := range states {
		states[i] = 398 - i
	}
	forced(t, "400 steps", g, r, 399, controls, make([]int, 400), states, api.OK)
	forced(t, "399 steps", g, r, 399, controls[1:], nil, nil, api.ErrTime)
	forced(t, "many more controls", g, r, 399, slices.Repeat(controls, 100), make([]int, 400), states, api.OK)
	forced(t, "the least state", g, r, 0, controls, []int{0}, []int{-1}, api.OK)
}

// TestForceRandom compares with the chapter's words.
func TestForceRandom(t *testing.T) {
	r := rand.New(rand.NewPCG(8, 5))
	met := [4]int{}
	for range 12000 {
		g := randomGame(r, 10)
		x := later(r, solved(t, g))
		state := stateOf(r, x, false)
		if state < 0 {
			continue
		}
		controls := chosen(r, from(r, 0, 6), g.Controls)
		shocks, states, e := tellForce(g, x, state, controls)
		forced(t, "random", g, x, state, controls, shocks, states, e)
		switch {
		case e != api.OK:
			met[0]++
		case len(states) == 0:
			met[1]++
		case states[len(states)-1] < 0:
			met[2]++
		case len(states) > 1:
			met[3]++
		}
	}
	if slices.Min(met[:]) < 200 {
		t.Error("met:", met)
	}
}
