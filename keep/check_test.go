package keep_test

import (
	"fmt"
	"math"
	"slices"
	"testing"

	"switchgear/api"
	"switchgear/keep"
)

// checked calls Check, and all functions that return its error first.
func checked(t *testing.T, name string, g keep.Game, want api.Errno) {
	t.Helper()
	right := still(1, 1, 1)
	_, ofSolve := keep.Solve(g)
	_, ofFirst := keep.Product(g, right)
	_, ofSecond := keep.Product(right, g)
	_, ofWithout := keep.Without(g, -1)
	for call, e := range map[string]api.Errno{"Check": keep.Check(g), "Solve": ofSolve, "Product, a": ofFirst, "Product, b": ofSecond} {
		if e != want {
			t.Errorf("%s, %s: %d, not %d", call, name, e, want)
		}
	}
	if want == api.OK {
		if e := keep.Verify(g, keep.Result{}); e != api.ErrFalse {
			t.Errorf("Verify, %s: %d", name, e)
		}
		if ofWithout != api.ErrArg {
			t.Errorf("Without, %s: %d", name, ofWithout)
		}
		return
	}
	_, ofPlay := keep.Play(g, keep.Result{}, -1, nil)
	_, _, ofForce := keep.Force(g, keep.Result{}, -1, nil)
	for call, e := range map[string]api.Errno{"Verify": keep.Verify(g, keep.Result{}), "Play": ofPlay, "Force": ofForce, "Without": ofWithout} {
		if e != want {
			t.Errorf("%s, %s: %d, not %d", call, name, e, want)
		}
	}
}

func TestConstants(t *testing.T) {
	if keep.MaxStates != 400 || keep.MaxChoices != 16 || keep.MaxPlays != 10000 {
		t.Error(keep.MaxStates, keep.MaxChoices, keep.MaxPlays)
	}
}

func TestCheckMany(t *testing.T) {
	for _, c := range []struct {
		states, controls, shocks int
		want                     api.Errno
	}{
		{1, 1, 1, api.OK},
		{400, 16, 16, api.OK},
		{400, 1, 1, api.OK},
		{1, 16, 1, api.OK},
		{1, 1, 16, api.OK},
		{0, 1, 1, api.ErrMany},
		{1, 0, 1, api.ErrMany},
		{1, 1, 0, api.ErrMany},
		{0, 0, 0, api.ErrMany},
		{401, 1, 1, api.ErrMany},
		{1, 17, 1, api.ErrMany},
		{1, 1, 17, api.ErrMany},
		{401, 17, 17, api.ErrMany},
	} {
		checked(t, fmt.Sprint(c), still(c.states, c.controls, c.shocks), c.want)
		g := still(c.states, c.controls, c.shocks)
		// Too many states matter before lists that have not the right length.
		g.Next, g.Good = append(g.Next, 0), nil
		checked(t, fmt.Sprint(c, "with other lists"), g, map[bool]api.Errno{true: api.ErrArg, false: api.ErrMany}[c.want == api.OK])
	}
	for _, n := range []int{-1, -2, -400, math.MinInt, math.MaxInt, math.MinInt + 1, 1 << 32, 1 << 62} {
		for name, change := range map[string]func(g *keep.Game){
			"States":       func(g *keep.Game) { g.States = n },
			"Controls":     func(g *keep.Game) { g.Controls = n },
			"Shocks":       func(g *keep.Game) { g.Shocks = n },
			"two of them":  func(g *keep.Game) { g.States, g.Controls = n, n },
			"all of them":  func(g *keep.Game) { g.States, g.Controls, g.Shocks = n, n, n },
			"and no lists": func(g *keep.Game) { *g = keep.Game{States: n, Controls: 1, Shocks: 1} },
		} {
			g := chapter()
			change(&g)
			checked(t, fmt.Sprint(name, n), g, api.ErrMany)
		}
	}
	// The product of these two numbers is right, but they are below 0.
	g := chapter()
	g.Controls, g.Shocks = -2, -2
	checked(t, "two are below 0", g, api.ErrMany)
	checked(t, "nothing", keep.Game{}, api.ErrMany)
}

func TestCheckLists(t *testing.T) {
	for name, change := range map[string]func(g *keep.Game){
		"Next is one too short":      func(g *keep.Game) { g.Next = g.Next[:11] },
		"Next is one too long":       func(g *keep.Game) { g.Next = append(g.Next, 0) },
		"Good is one too short":      func(g *keep.Game) { g.Good = g.Good[:2] },
		"Good is one too long":       func(g *keep.Game) { g.Good = append(g.Good, true) },
		"no Next":                    func(g *keep.Game) { g.Next = nil },
		"an empty Next":              func(g *keep.Game) { g.Next = []int{} },
		"no Good":                    func(g *keep.Game) { g.Good = nil },
		"an empty Good":              func(g *keep.Game) { g.Good = []bool{} },
		"no list":                    func(g *keep.Game) { g.Next, g.Good = nil, nil },
		"Next has one for two":       func(g *keep.Game) { g.Next = g.Next[:6] },
		"Next is for another number": func(g *keep.Game) { g.Controls = 3 },
		"a state more":               func(g *keep.Game) { g.States = 4 },
		"a state less":               func(g *keep.Game) { g.States = 2 },
		"a shock less":               func(g *keep.Game) { g.Shocks = 1 },
		"wrong, and too short":       func(g *keep.Game) { g.Next = []int{-2} },
		"wrong, and Good too short":  func(g *keep.Game) { g.Next[0], g.Good = 3, nil },
	} {
		g := chapter()
		change(&g)
		checked(t, name, g, api.ErrArg)
	}
	checked(t, "the chapter's game", chapter(), api.OK)
	g := chapter()
	g.Controls, g.Shocks = 4, 1
	checked(t, "as many numbers for other choices", g, api.OK)
}

func TestCheckNext(t *testing.T) {
	for place := range chapter().Next {
		for next, want := range map[int]api.Errno{
			-1: api.OK, 0: api.OK, 1: api.OK, 2: api.OK,
			-2: api.ErrRange, 3: api.ErrRange, 400: api.ErrRange, math.MinInt: api.ErrRange, math.MaxInt: api.ErrRange,
		} {
			g := chapter()
			g.Next[place] = next
			checked(t, fmt.Sprint(next, "at", place), g, want)
		}
	}
	great := still(400, 16, 16)
	for _, place := range []int{0, 1, 51200, len(great.Next) - 1} {
		for next, want := range map[int]api.Errno{-1: api.OK, 399: api.OK, 400: api.ErrRange, -2: api.ErrRange} {
			g := copied(great)
			g.Next[place] = next
			checked(t, fmt.Sprint(next, "at", place), g, want)
		}
	}
	one := still(1, 1, 1)
	one.Next[0] = 1
	checked(t, "just beyond one state", one, api.ErrRange)
	one.Next[0] = -1
	checked(t, "only a disaster", one, api.OK)
	if !slices.Equal(one.Next, []int{-1}) {
		t.Error(one)
	}
}
