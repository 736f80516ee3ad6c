package steps_test

import (
	"slices"
	"testing"

	"switchgear/api"
	"switchgear/steps"
)

// closed checks what Closed returns.
func closed(t *testing.T, name string, p api.Plant, s api.State, task steps.Task, l []api.State, want api.Errno) {
	t.Helper()
	if e := steps.Closed(p, s, task, l); e != want {
		t.Error(name, e)
	}
}

func TestClosed(t *testing.T) {
	p, s := parsed(t, chapter)
	opened := func(links ...int) api.State {
		return changed(s, func(s *api.State) {
			for _, i := range links {
				s.Closed[i] = false
			}
		})
	}
	// The switch alone can be opened when the breaker is open; the goal is never reached, as the grid cannot be stopped.
	task := steps.Task{Allowed: both(step(api.Open, 0), step(api.Open, 1)), Goal: []api.Step{step(api.Stop, 0)}}
	whole := []api.State{s, opened(0), opened(0, 1), opened(1)}
	closed(t, "all four states", p, s, task, whole, api.OK)
	for _, x := range task.Allowed {
		l := slices.Clone(whole)
		slices.Reverse(l)
		closed(t, "in any order, and some twice", p, s, task, append(l, whole[:2]...), api.OK)
		closed(t, "without a state", p, s, task, slices.DeleteFunc(l, func(u api.State) bool { at, to := flag(u, x); return *at == to }), api.ErrFalse)
	}
	closed(t, "from another one of them", p, opened(1), task, whole, api.OK)
	closed(t, "from a state that is not in it", p, changed(s, func(s *api.State) { s.Locked[0] = true }), task, whole, api.ErrFalse)
	closed(t, "no states", p, s, task, nil, api.ErrFalse)
	closed(t, "no states", p, s, task, []api.State{}, api.ErrFalse)
	off := changed(s, func(s *api.State) { s.On[0] = false })
	closed(t, "a state in which the goal holds", p, s, task, append(slices.Clone(whole), off), api.ErrFalse)
	task.Goal = append(task.Goal, step(api.Open, 0))
	closed(t, "a state in which a part of the goal holds, without those after it", p, s, task, append(slices.Clone(whole), off), api.ErrFalse)
	task.Goal = nil
	closed(t, "no goal holds everywhere", p, s, task, whole, api.ErrFalse)
}

// TestClosedMore takes states that need not be there, and some that must not.
func TestClosedMore(t *testing.T) {
	p, s := parsed(t, chapter)
	task := steps.Task{Fed: []int{0}, Allowed: both(step(api.Open, 0)), Goal: []api.Step{step(api.Open, 1)}}
	closed(t, "the only state", p, s, task, []api.State{s}, api.OK)
	locked := changed(s, func(s *api.State) { s.Locked[1] = true })
	closed(t, "one more that is closed, too", p, s, task, []api.State{locked, s}, api.OK)
	for i, change := range []func(s *api.State){
		func(s *api.State) { s.Closed[0] = false },   // dark
		func(s *api.State) { s.Earthed[0] = true },   // earthed and live
		func(s *api.State) { s.BadBus[2] = true },    // dark
		func(s *api.State) { s.Closed = nil },        // not valid
		func(s *api.State) { s.On = []bool{} },       // not valid
		func(s *api.State) { *s = api.State{} },      // not valid
		func(s *api.State) { s.Locked[0] = true },    // legal
		func(s *api.State) { s.BadLink[1] = true },   // dark
		func(s *api.State) { s.BadLink[0] = true },   // dark
		func(s *api.State) { s.BadBus = s.On },       // not valid
		func(s *api.State) { s.Earthed = s.Locked },  // not valid
		func(s *api.State) { s.BadSource[0] = true }, // dark
	} {
		want := api.ErrFalse
		if i == 6 {
			want = api.OK
		}
		closed(t, "with another state", p, s, task, []api.State{s, changed(s, change)}, want)
	}
	closed(t, "a long list in one state", p, s, task, []api.State{s, {Closed: make([]bool, 1000), Locked: make([]bool, 1000), BadLink: make([]bool, 1000)}}, api.ErrFalse)
	task.Fed = nil
	closed(t, "it leads out", p, s, task, []api.State{s}, api.ErrFalse)
	p, s = parsed(t, ring)
	s.On[1], s.On[2] = false, false
	cable := changed(s, func(s *api.State) { s.Closed[3] = false })
	never := steps.Task{Goal: []api.Step{step(api.Open, 0)}}
	closed(t, "a state", p, s, never, []api.State{s}, api.OK)
	closed(t, "a state with an open cable", p, s, never, []api.State{s, cable}, api.ErrFalse)
}

func TestClosedErrors(t *testing.T) {
	p, s := parsed(t, chapter)
	task := steps.Task{Goal: []api.Step{step(api.Open, 1)}}
	most := slices.Repeat([]api.State{s}, steps.MaxStates)
	more := append(slices.Clone(most), s)
	closed(t, "20000 states", p, s, task, most, api.OK)
	closed(t, "20001 states", p, s, task, more, api.ErrMany)
	closed(t, "20001 states that are none", p, s, task, make([]api.State, 20001), api.ErrMany)
	closed(t, "20000 states that are none", p, s, task, make([]api.State, 20000), api.ErrFalse)
	for _, l := range [][]api.State{nil, {s}, {{}}, more} {
		closed(t, "no plant", api.Plant{}, s, steps.Task{Crew: []int{3}}, l, api.ErrBus)
		closed(t, "no state", p, api.State{}, steps.Task{Crew: []int{3}}, l, api.ErrState)
		closed(t, "no task", p, s, steps.Task{Crew: []int{3}}, l, api.ErrArg)
		closed(t, "not legal", p, changed(s, func(s *api.State) { s.On[0] = false }), steps.Task{Fed: []int{0}}, l, api.ErrDark)
	}
}

// TestClosedTells checks that states which differ in any flag are not taken for each other, in the greatest plant.
func TestClosedTells(t *testing.T) {
	p := api.Plant{
		Buses:   api.MaxBuses,
		Sources: slices.Repeat([]api.Source{{Bus: 23, Kind: api.Grid, Power: 1, Sync: 1, Ohm: 10}}, api.MaxSources),
		Links:   slices.Repeat([]api.Link{{A: 0, B: 23, Kind: api.Breaker, Most: 1, Ohm: 10}}, api.MaxLinks),
	}
	// The goal holds in no state with less than two changes.
	task := steps.Task{Goal: []api.Step{step(api.Lock, 0), step(api.Lock, 1)}}
	s := start(t, p)
	s.On = make([]bool, api.MaxSources)
	var others []api.State
	for i, l := range lists(&s) {
		for k := range *l {
			others = append(others, changed(s, func(s *api.State) { at := &(*lists(s)[i])[k]; *at = !*at }))
		}
	}
	if len(others) != 3*40+2*8+2*24 {
		t.Fatal(len(others))
	}
	closed(t, "only others", p, s, task, others, api.ErrFalse)
	for i, u := range others {
		rest := append(slices.Delete(slices.Clone(others), i, i+1), s)
		closed(t, "all but one", p, u, task, rest, api.ErrFalse)
		closed(t, "all", p, u, task, append(rest, u), api.OK)
	}
}
