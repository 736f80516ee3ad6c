package steps_test

import (
	"slices"
	"testing"

	"switchgear/api"
	"switchgear/steps"
)

// verified checks what Verify returns; with an error the state must be zero.
func verified(t *testing.T, name string, p api.Plant, s api.State, task steps.Task, l []api.Step, n int, want api.Errno) api.State {
	t.Helper()
	kept := copyState(s)
	m, u, e := steps.Verify(p, s, task, l)
	if m != n || e != want || zeroState(u) != (e != api.OK) {
		t.Error(name, m, u, e)
	}
	if !sameState(s, kept) {
		t.Error(name, "the state was changed")
	}
	return u
}

// TestVerifyStops has programs that stop at their first, a middle and their last step: at one that cannot be done, and at one to a state that is not legal.
func TestVerifyStops(t *testing.T) {
	p, s := parsed(t, ring)
	s.On = []bool{true, false, false}
	s.Closed = []bool{true, false, false, true, false} // buses 0 and 1 are live
	task := steps.Task{Fed: []int{0}}
	right := []api.Step{step(api.Close, 1), step(api.Earth, 4), step(api.Lock, 2), step(api.Open, 1), step(api.Unearth, 4), step(api.Start, 2)}
	u := verified(t, "right", p, s, task, right, 6, api.OK)
	if want := changed(s, func(s *api.State) { s.Locked[2], s.On[2] = true, true }); !sameState(u, want) {
		t.Error(u)
	}
	for _, c := range []struct {
		x api.Step
		e [3]api.Errno // at the first, a middle and the last place
	}{
		{step(api.Open, 3), [3]api.Errno{api.ErrArg, api.ErrArg, api.ErrArg}},
		{step(0, 0), [3]api.Errno{api.ErrArg, api.ErrArg, api.ErrArg}},
		{step(api.Close, 0), [3]api.Errno{api.ErrDone, api.ErrDone, api.ErrDone}},
		{step(api.Close, 2), [3]api.Errno{api.ErrArc, api.ErrLocked, api.ErrLocked}},
		{step(api.Close, 4), [3]api.Errno{api.ErrArc, api.ErrArc, api.ErrArc}},
		{step(api.Earth, 1), [3]api.Errno{api.ErrEarthed, api.ErrEarthed, api.ErrEarthed}},
		{step(api.Start, 1), [3]api.Errno{api.OK, api.ErrParallel, api.OK}},
		{step(api.Open, 0), [3]api.Errno{api.ErrDark, api.ErrDark, api.OK}},
	} {
		for i, place := range []int{0, 3, 6} {
			l := slices.Insert(slices.Clone(right), place, c.x)
			if c.e[i] != api.OK {
				verified(t, "wrong", p, s, task, l, place, c.e[i])
				verified(t, "wrong and nothing after it", p, s, task, l[:place+1], place, c.e[i])
				verified(t, "wrong and worse after it", p, s, task, append(l[:place+1:place+1], step(0, 0)), place, c.e[i])
			}
		}
	}
	verified(t, "the rack has its second feed at the end", p, s, task, append(slices.Clone(right), step(api.Open, 0)), 7, api.OK)
}

func TestVerifyLengths(t *testing.T) {
	p, s := parsed(t, chapter)
	u := verified(t, "empty", p, s, steps.Task{}, nil, 0, api.OK)
	if !sameState(u, s) {
		t.Error(u)
	}
	if u = verified(t, "empty", p, s, steps.Task{}, []api.Step{}, 0, api.OK); !sameState(u, s) {
		t.Error(u)
	}
	u.On[0] = false
	if !s.On[0] {
		t.Error("the state after no step shares memory")
	}
	l := slices.Repeat([]api.Step{step(api.Open, 0), step(api.Close, 0)}, 128)
	if u := verified(t, "256 steps", p, s, steps.Task{}, l, 256, api.OK); !sameState(u, s) {
		t.Error(u)
	}
	if u := verified(t, "255 steps", p, s, steps.Task{}, l[:255], 255, api.OK); !sameState(u, changed(s, func(s *api.State) { s.Closed[0] = false })) {
		t.Error(u)
	}
	verified(t, "257 steps", p, s, steps.Task{}, append(slices.Clone(l), l[0]), 0, api.ErrMany)
	verified(t, "257 steps, the first of which is none", p, s, steps.Task{}, append([]api.Step{{}}, l...), 0, api.ErrMany)
	verified(t, "the last of 256 steps is wrong", p, s, steps.Task{}, append(slices.Clone(l[:255]), step(api.Open, 0)), 255, api.ErrDone)
	verified(t, "the rack is dark after the first step", p, s, steps.Task{Fed: []int{0}}, l, 0, api.ErrDark)
}

// TestVerifyBeginning checks that the errors of Legal for the first state come before those of the program.
func TestVerifyBeginning(t *testing.T) {
	p, s := parsed(t, chapter)
	many := make([]api.Step, 257)
	for _, l := range [][]api.Step{nil, {step(api.Open, 0)}, {{}}, many} {
		verified(t, "dark", p, changed(s, func(s *api.State) { s.On[0] = false }), steps.Task{Fed: []int{0}}, l, 0, api.ErrDark)
		verified(t, "earthed", p, changed(s, func(s *api.State) { s.Earthed[2] = true }), steps.Task{}, l, 0, api.ErrEarthed)
		verified(t, "not safe", p, changed(s, func(s *api.State) { s.On[0] = false }), steps.Task{Crew: []int{2}}, l, 0, api.ErrZone)
		verified(t, "no task", p, s, steps.Task{Crew: []int{3}}, l, 0, api.ErrArg)
		verified(t, "no state", p, changed(s, func(s *api.State) { s.On = nil }), steps.Task{Crew: []int{3}}, l, 0, api.ErrState)
		verified(t, "no plant", api.Plant{}, s, steps.Task{Crew: []int{3}}, l, 0, api.ErrBus)
	}
}

// TestSecondExample is the chapter's second example.
func TestSecondExample(t *testing.T) {
	p, s := parsed(t, chapter)
	s.Closed[1], s.Locked[1], s.Earthed[2] = false, true, true
	if u, e := steps.Do(p, s, step(api.Close, 1)); e != api.ErrLocked || !zeroState(u) {
		t.Error(u, e)
	}
	task := steps.Task{Crew: []int{2}}
	if e := steps.Legal(p, s, task); e != api.OK {
		t.Error(e)
	}
	verified(t, "unlock", p, s, task, []api.Step{step(api.Unlock, 1), step(api.Open, 0)}, 0, api.ErrZone)
	verified(t, "unlock later", p, s, task, []api.Step{step(api.Open, 0), step(api.Unlock, 1)}, 1, api.ErrZone)
	verified(t, "unlock without people", p, s, steps.Task{}, []api.Step{step(api.Unlock, 1), step(api.Open, 0), step(api.Close, 1)}, 3, api.OK)
}

func TestReverse(t *testing.T) {
	for _, l := range [][]api.Step{nil, {}} {
		if back := steps.Reverse(l); len(back) != 0 {
			t.Error(back)
		}
	}
	l := []api.Step{step(api.Open, 0), step(0, 5), step(api.Earth, -1), step(api.Stop, 99), step(-7, 1), step(api.Lock, 3)}
	kept := slices.Clone(l)
	want := []api.Step{step(api.Unlock, 3), step(-7, 1), step(api.Start, 99), step(api.Unearth, -1), step(0, 5), step(api.Close, 0)}
	back := steps.Reverse(l)
	if !slices.Equal(back, want) || !slices.Equal(l, kept) {
		t.Error(back, l)
	}
	if !slices.Equal(steps.Reverse(back), l) {
		t.Error("twice")
	}
	back[0], back[5] = api.Step{}, api.Step{}
	if !slices.Equal(l, kept) {
		t.Error("the result shares memory")
	}
	long := slices.Repeat(l, 100)
	if back := steps.Reverse(long); !slices.Equal(back, slices.Repeat(want, 100)) {
		t.Error("600 steps")
	}
}

// TestReverseOfTheFirstSteps turns a program back from each of its steps.
func TestReverseOfTheFirstSteps(t *testing.T) {
	p, s := parsed(t, ring)
	s.On = []bool{true, false, false}
	s.Closed = []bool{true, false, true, true, true}
	task := steps.Task{Fed: []int{0}, Crew: []int{2}}
	s.Earthed[2], s.Locked[1] = true, true
	l := []api.Step{step(api.Open, 0), step(api.Close, 0), step(api.Open, 4), step(api.Lock, 4), step(api.Open, 0)}
	n, _, e := steps.Verify(p, s, task, l)
	if n != 4 || e != api.ErrDark {
		t.Fatal(n, e)
	}
	for n := range 5 {
		u := verified(t, "forth", p, s, task, l[:n], n, api.OK)
		if back := verified(t, "back", p, u, task, steps.Reverse(l[:n]), n, api.OK); !sameState(back, s) {
			t.Error(n, back)
		}
	}
}
