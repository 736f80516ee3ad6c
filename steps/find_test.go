package steps_test

import (
	"math"
	"slices"
	"testing"

	"switchgear/api"
	"switchgear/steps"
)

// found checks the program that Find returns, and that it is verified and leads to the goal.
func found(t *testing.T, name string, p api.Plant, s api.State, task steps.Task, most int, want ...api.Step) {
	t.Helper()
	kept := copyState(s)
	l, states, e := steps.Find(p, s, task, most)
	if e != api.OK || len(states) != 0 || !slices.Equal(l, want) {
		t.Error(name, l, states, e)
	}
	n, u, e := steps.Verify(p, s, task, l)
	if n != len(l) || e != api.OK {
		t.Error(name, "what was found is not verified", n, e)
	}
	for _, x := range task.Goal {
		if ok, e := steps.Holds(p, u, x); !ok || e != api.OK {
			t.Error(name, x, "does not hold", e)
		}
	}
	if !sameState(s, kept) {
		t.Error(name, "the state was changed")
	}
}

// failed checks the error of Find, with which there is nothing else.
func failed(t *testing.T, name string, p api.Plant, s api.State, task steps.Task, most int, want api.Errno) {
	t.Helper()
	if l, states, e := steps.Find(p, s, task, most); e != want || len(l) != 0 || len(states) != 0 {
		t.Error(name, l, len(states), e)
	}
}

// none checks that Find has no program, and returns the states that it has reached; they must prove it, and nothing less.
func none(t *testing.T, name string, p api.Plant, s api.State, task steps.Task, most int) []api.State {
	t.Helper()
	l, states, e := steps.Find(p, s, task, most)
	if e != api.ErrNone || len(l) != 0 || len(states) == 0 || !sameState(states[0], s) {
		t.Error(name, l, states, e)
	}
	if e := steps.Closed(p, s, task, states); e != api.OK {
		t.Error(name, "no proof:", e)
	}
	for i := range states {
		if e := steps.Closed(p, s, task, slices.Delete(slices.Clone(states), i, i+1)); e != api.ErrFalse {
			t.Error(name, "a proof without", i, e)
		}
	}
	return states
}

// TestThirdExample is the chapter's third example.
func TestThirdExample(t *testing.T) {
	p, s := parsed(t, chapter)
	task := steps.Task{
		Allowed: both(step(api.Open, 0), step(api.Open, 1), step(api.Lock, 0), step(api.Lock, 1)),
		Goal:    []api.Step{step(api.Open, 1)},
	}
	found(t, "all steps", p, s, task, steps.MaxStates, step(api.Open, 0), step(api.Open, 1))
	task.Allowed = task.Allowed[:4]
	found(t, "open and close", p, s, task, 3, step(api.Open, 0), step(api.Open, 1))
	task.Fed = []int{0}
	states := none(t, "the rack must be fed", p, s, task, 1)
	if len(states) != 1 {
		t.Error(states)
	}
}

func TestFindAtOnce(t *testing.T) {
	p, s := parsed(t, chapter)
	for _, task := range []steps.Task{
		{},
		{Allowed: both(step(api.Open, 0))},
		{Goal: []api.Step{step(api.Close, 0), step(api.Start, 0), step(api.Unlock, 1)}},
		{Allowed: both(step(api.Open, 0)), Goal: []api.Step{step(api.Close, 1)}, Fed: []int{0}},
	} {
		found(t, "at once", p, s, task, 1)
		if e := steps.Closed(p, s, task, []api.State{s}); e != api.ErrFalse {
			t.Error("there is a program:", e)
		}
	}
}

// locks is a plant whose breakers can be locked in any order.
const locks = `plant 2
link 0 1 breaker 400 10
link 0 1 breaker 400 10
link 0 1 breaker 400 10
`

// TestFindLeast has several shortest programs: the order of Allowed decides, not that of deeds, indices or Goal.
func TestFindLeast(t *testing.T) {
	p, s := parsed(t, locks)
	a, b, c := step(api.Lock, 0), step(api.Lock, 1), step(api.Lock, 2)
	for _, l := range [][]api.Step{{a, b, c}, {a, c, b}, {b, a, c}, {b, c, a}, {c, a, b}, {c, b, a}} {
		for _, goal := range [][]api.Step{{a, b, c}, {c, b, a}, {b, a, c, b}} {
			found(t, "all", p, s, steps.Task{Allowed: l, Goal: goal}, 8, l...)
			found(t, "one of them again at the end", p, s, steps.Task{Allowed: append(slices.Clone(l), l[0]), Goal: goal}, 8, l...)
			found(t, "the last one also at the beginning", p, s, steps.Task{Allowed: append([]api.Step{l[2]}, l...), Goal: goal}, 8, l[2], l[0], l[1])
			found(t, "the second one also at the beginning", p, s, steps.Task{Allowed: append([]api.Step{l[1]}, l...), Goal: goal}, 8, l[1], l[0], l[2])
		}
		found(t, "two of three", p, s, steps.Task{Allowed: l, Goal: []api.Step{l[2], l[1]}}, 8, l[1], l[2])
	}
}

// detour is a plant in which a switch can be opened if another way is closed, or if no source is on.
const detour = `plant 3
source 0 grid 500 0 20
link 0 1 breaker 400 10
link 1 2 switch 400 10
link 0 2 breaker 400 10
link 1 2 breaker 400 10
rack 2 -1 100 1
`

// TestFindShortest compares the ways of opening a switch.
func TestFindShortest(t *testing.T) {
	p, s := parsed(t, detour)
	s.Closed[2], s.Closed[3] = false, false
	task := steps.Task{Allowed: both(step(api.Open, 0), step(api.Close, 3), step(api.Close, 2), step(api.Stop, 0), step(api.Open, 1)), Goal: []api.Step{step(api.Open, 1)}}
	found(t, "the first way", p, s, task, 100, step(api.Open, 0), step(api.Open, 1))
	task.Fed = []int{0}
	found(t, "the way with the least index that feeds", p, s, task, 100, step(api.Close, 3), step(api.Open, 1))
	task.Goal = append(task.Goal, step(api.Open, 3))
	found(t, "the way with the least index that ends open", p, s, task, 100, step(api.Close, 2), step(api.Open, 1))
	task.Goal = append(task.Goal, step(api.Open, 0), step(api.Close, 3))
	failed(t, "goals that are never met together", p, s, task, 1, api.ErrLarge)
	task.Goal = []api.Step{step(api.Open, 1), step(api.Open, 2)}
	task.Fed, task.Allowed = nil, both(step(api.Stop, 0), step(api.Open, 1))
	found(t, "without power", p, s, task, 100, step(api.Stop, 0), step(api.Open, 1))
	task.Goal = append(task.Goal, step(api.Start, 0))
	found(t, "and with it again", p, s, task, 100, step(api.Stop, 0), step(api.Open, 1), step(api.Start, 0))
}

// TestFindMost has searches that reach just most states, and one more.
func TestFindMost(t *testing.T) {
	p, s := parsed(t, locks)
	a, b, c := step(api.Lock, 0), step(api.Lock, 1), step(api.Lock, 2)
	never := []api.Step{step(api.Open, 0)}
	task := steps.Task{Allowed: []api.Step{a, b, c}, Goal: never}
	for most := 1; most < 8; most++ {
		failed(t, "of eight states", p, s, task, most, api.ErrLarge)
	}
	if l := none(t, "eight states", p, s, task, 8); len(l) != 8 {
		t.Error(l)
	}
	none(t, "more than eight", p, s, task, 9)
	none(t, "the greatest number", p, s, task, 20000)
	// The states are reached as: s, a, b, c, ab, ac, bc, abc.
	for _, x := range []struct {
		place int
		goal  []api.Step
	}{{1, []api.Step{a}}, {2, []api.Step{b}}, {3, []api.Step{c}}, {4, []api.Step{a, b}}, {5, []api.Step{a, c}}, {6, []api.Step{b, c}}, {7, []api.Step{a, b, c}}} {
		task.Goal = x.goal
		failed(t, "the last one is one too much", p, s, task, x.place, api.ErrLarge)
		found(t, "the last one ends the search", p, s, task, x.place+1, x.goal...)
	}
	task.Goal = []api.Step{step(api.Close, 0)}
	for _, most := range []int{0, -1, 20001, math.MinInt, math.MaxInt} {
		failed(t, "most", p, s, task, most, api.ErrArg)
	}
	found(t, "the least most", p, s, task, 1)
	found(t, "the greatest most", p, s, task, 20000)
}

// TestFindOrder checks the states that are reached, in their order.
func TestFindOrder(t *testing.T) {
	p, s := parsed(t, locks)
	a, b, c := step(api.Lock, 0), step(api.Lock, 1), step(api.Lock, 2)
	s.Locked[1] = true
	task := steps.Task{Allowed: []api.Step{c, a, b, step(api.Unlock, 1), c, step(api.Open, 1)}, Goal: []api.Step{step(api.Open, 1), step(api.Lock, 1), b, step(api.Open, 0)}}
	want := [][2][]bool{ // closed, locked
		{{true, true, true}, {false, true, false}},
		{{true, true, true}, {false, true, true}},
		{{true, true, true}, {true, true, false}},
		{{true, true, true}, {false, false, false}},
		{{true, true, true}, {true, true, true}},
		{{true, true, true}, {false, false, true}},
		{{true, true, true}, {true, false, false}},
		{{true, false, true}, {false, false, false}},
		{{true, true, true}, {true, false, true}},
		{{true, false, true}, {false, false, true}},
		{{true, false, true}, {true, false, false}},
		{{true, false, true}, {false, true, false}},
		{{true, false, true}, {true, false, true}},
		{{true, false, true}, {false, true, true}},
		{{true, false, true}, {true, true, false}},
		{{true, false, true}, {true, true, true}},
	}
	l := none(t, "in order", p, s, task, 16)
	for i, u := range l {
		if i >= len(want) || !slices.Equal(u.Closed, want[i][0]) || !slices.Equal(u.Locked, want[i][1]) {
			t.Error(i, u)
		}
	}
	if len(l) != len(want) {
		t.Error(len(l))
	}
}

// TestFindLarge reaches as many states as Find ever does.
func TestFindLarge(t *testing.T) {
	p := api.Plant{Buses: 2, Links: slices.Repeat([]api.Link{{A: 0, B: 1, Kind: api.Breaker, Most: 1, Ohm: 10}}, 24)}
	s := start(t, p)
	task := steps.Task{Goal: []api.Step{step(api.Open, 0)}}
	for i := range 14 {
		task.Allowed = append(task.Allowed, step(api.Lock, i))
	}
	l, states, e := steps.Find(p, s, task, 1<<14)
	if e != api.ErrNone || len(l) != 0 || len(states) != 1<<14 {
		t.Fatal(l, len(states), e)
	}
	if e := steps.Closed(p, s, task, states); e != api.OK {
		t.Error(e)
	}
	if e := steps.Closed(p, s, task, states[:1<<14-1]); e != api.ErrFalse {
		t.Error(e)
	}
	failed(t, "one less", p, s, task, 1<<14-1, api.ErrLarge)
	for i := 14; i < 24; i++ {
		task.Allowed = append(task.Allowed, step(api.Lock, i))
	}
	failed(t, "24 allowed steps", p, s, task, steps.MaxStates, api.ErrLarge)
	task.Goal = task.Allowed[20:]
	found(t, "a program of four", p, s, task, steps.MaxStates, task.Goal...)
}

// TestFindErrors checks that the errors of Legal come first, and then that of most.
func TestFindErrors(t *testing.T) {
	p, s := parsed(t, chapter)
	for _, most := range []int{0, 1, 20001} {
		failed(t, "no plant", api.Plant{}, s, steps.Task{Crew: []int{7}}, most, api.ErrBus)
		failed(t, "no state", p, api.State{}, steps.Task{Crew: []int{7}}, most, api.ErrState)
		failed(t, "no task", p, s, steps.Task{Crew: []int{7}}, most, api.ErrArg)
		failed(t, "no goal", p, s, steps.Task{Goal: []api.Step{step(api.Open, 2)}}, most, api.ErrArg)
		failed(t, "not legal", p, changed(s, func(s *api.State) { s.On[0] = false }), steps.Task{Fed: []int{0}}, most, api.ErrDark)
	}
	for _, most := range []int{0, 20001} {
		failed(t, "most", p, s, steps.Task{}, most, api.ErrArg)
	}
}
