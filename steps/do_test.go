package steps_test

import (
	"math"
	"testing"

	"switchgear/api"
	"switchgear/steps"
)

// noSteps returns steps that are none of the ring.
func noSteps() []api.Step {
	return []api.Step{
		{}, step(0, 1), step(-1, 0), step(9, 0), step(math.MaxInt, 0), step(math.MinInt, 0),
		step(api.Open, 3), step(api.Close, 3), step(api.Lock, 3), step(api.Unlock, 3), // the cable
		step(api.Open, -1), step(api.Close, 5), step(api.Lock, 40), step(api.Unlock, math.MinInt), step(api.Open, math.MaxInt),
		step(api.Earth, -1), step(api.Earth, 5), step(api.Unearth, 5), step(api.Unearth, math.MaxInt),
		step(api.Start, -1), step(api.Start, 3), step(api.Stop, 3), step(api.Stop, math.MinInt),
	}
}

func TestInverse(t *testing.T) {
	for _, pair := range [][2]api.Deed{{api.Open, api.Close}, {api.Earth, api.Unearth}, {api.Lock, api.Unlock}, {api.Start, api.Stop}} {
		for _, index := range []int{0, 7, -1, math.MaxInt, math.MinInt} {
			a, b := step(pair[0], index), step(pair[1], index)
			if steps.Inverse(a) != b || steps.Inverse(b) != a {
				t.Error(a, steps.Inverse(a), b, steps.Inverse(b))
			}
		}
	}
	for _, deed := range []api.Deed{0, -1, 9, 10, math.MaxInt, math.MinInt} {
		for _, index := range []int{0, 3, -1} {
			if x := step(deed, index); steps.Inverse(x) != x {
				t.Error("a deed that is none:", x, steps.Inverse(x))
			}
		}
	}
}

func TestHolds(t *testing.T) {
	p, s := parsed(t, ring)
	if len(stepsOf(p)) != 4*4+2*5+2*3 {
		t.Fatal(stepsOf(p))
	}
	for _, x := range stepsOf(p) {
		for _, now := range []bool{false, true} {
			u := copyState(s)
			at, to := flag(u, x)
			*at = now
			if ok, e := steps.Holds(p, u, x); e != api.OK || ok != (now == to) {
				t.Error(x, now, ok, e)
			}
		}
	}
	for _, x := range noSteps() {
		if ok, e := steps.Holds(p, s, x); ok || e != api.ErrArg {
			t.Error(x, ok, e)
		}
	}
	s.On = nil
	if ok, e := steps.Holds(p, s, step(0, 0)); ok || e != api.ErrState {
		t.Error(ok, e)
	}
	p.Buses = 0
	if ok, e := steps.Holds(p, s, step(0, 0)); ok || e != api.ErrBus {
		t.Error(ok, e)
	}
}

// TestDo does each step that can be done, and turns it back. No bus of the ring is live, so that no switch is in its way.
func TestDo(t *testing.T) {
	p, s := parsed(t, ring)
	s.On = []bool{false, false, false}
	for _, x := range stepsOf(p) {
		u := copyState(s)
		at, to := flag(u, x)
		*at = !to
		kept := copyState(u)
		after, e := steps.Do(p, u, x)
		if e != api.OK || !sameState(u, kept) {
			t.Fatal(x, after, e)
		}
		*at = to
		if !sameState(after, u) {
			t.Error("not just the step:", x, after)
		}
		if _, e := steps.Do(p, after, x); e != api.ErrDone {
			t.Error("twice:", x, e)
		}
		if back, e := steps.Do(p, after, steps.Inverse(x)); e != api.OK || !sameState(back, kept) {
			t.Error("back:", x, back, e)
		}
	}
}

// TestDoErrors looks for each reason with all those that come after it, as far as there are any.
func TestDoErrors(t *testing.T) {
	p, s := parsed(t, ring)
	s.Closed[4] = false
	for i := range p.Links {
		s.BadLink[i] = true
	}
	for _, x := range noSteps() {
		if u, e := steps.Do(p, s, x); e != api.ErrArg || !zeroState(u) {
			t.Error(x, u, e)
		}
	}
	for _, c := range []struct {
		name   string
		x      api.Step
		change func(s *api.State)
		e      api.Errno
	}{
		{"done, failed, locked and an arc", step(api.Open, 4), func(s *api.State) { s.Locked[4] = true }, api.ErrDone},
		{"done and failed", step(api.Start, 0), func(s *api.State) { s.BadSource[0] = true }, api.ErrDone},
		{"done and failed", step(api.Close, 0), func(s *api.State) {}, api.ErrDone},
		{"failed, locked and an arc", step(api.Close, 4), func(s *api.State) { s.Locked[4] = true }, api.ErrBad},
		{"failed and locked", step(api.Open, 0), func(s *api.State) { s.Locked[0] = true }, api.ErrBad},
		{"failed", step(api.Stop, 1), func(s *api.State) { s.BadSource[1] = true }, api.ErrBad},
		{"failed", step(api.Start, 1), func(s *api.State) { s.BadSource[1], s.On[1] = true, false }, api.ErrBad},
		{"locked and an arc", step(api.Close, 4), func(s *api.State) { s.Locked[4], s.BadLink[4] = true, false }, api.ErrLocked},
		{"locked", step(api.Open, 0), func(s *api.State) { s.Locked[0], s.BadLink[0] = true, false }, api.ErrLocked},
		{"an arc", step(api.Close, 4), func(s *api.State) { s.BadLink[4] = false }, api.ErrArc},
		{"done and locked", step(api.Lock, 0), func(s *api.State) { s.Locked[0] = true }, api.ErrDone},
		{"a lock of a link that has failed", step(api.Lock, 0), func(s *api.State) {}, api.OK},
		{"an unlock of one", step(api.Unlock, 4), func(s *api.State) { s.Locked[4] = true }, api.OK},
		{"an earth of a live bus", step(api.Earth, 0), func(s *api.State) {}, api.OK},
		{"an earth of a bus that has failed", step(api.Earth, 1), func(s *api.State) { s.BadBus[1] = true }, api.OK},
		{"an earth that is there", step(api.Earth, 0), func(s *api.State) { s.Earthed[0] = true }, api.ErrDone},
		{"a stop at a bus that has failed", step(api.Stop, 0), func(s *api.State) { s.BadBus[0] = true }, api.OK},
	} {
		u := changed(s, c.change)
		after, e := steps.Do(p, u, c.x)
		if e != c.e || zeroState(after) != (e != api.OK) {
			t.Error(c.name, c.x, after, e)
		}
	}
	if u, e := steps.Do(p, changed(s, func(s *api.State) { s.Closed[3] = false }), step(0, 0)); e != api.ErrState || !zeroState(u) {
		t.Error("an open cable:", u, e)
	}
	p.Racks[0].Power = 0
	if u, e := steps.Do(p, api.State{}, step(0, 0)); e != api.ErrRack || !zeroState(u) {
		t.Error("a rack without power:", u, e)
	}
}

// across is a plant with two ways from bus 1 to bus 2, the first of which is a switch, and sources at both ends.
const across = `plant 4
source 0 grid 500 1 20
source 3 grid 500 1 20
link 0 1 breaker 400 10
link 1 2 switch 400 10
link 2 1 breaker 400 10
link 2 3 breaker 400 10
`

// TestArcs tries a switch: opening it and closing it are ErrArc in the same cases.
func TestArcs(t *testing.T) {
	p, all := parsed(t, across)
	alone := changed(all, func(s *api.State) { s.Closed[2] = false })
	for _, c := range []struct {
		name   string
		s      api.State
		change func(s *api.State)
		arc    bool
	}{
		{"both sides live", alone, func(s *api.State) {}, true},
		{"the first side live", alone, func(s *api.State) { s.Closed[3] = false }, true},
		{"the second side live", alone, func(s *api.State) { s.Closed[0] = false }, true},
		{"both sides dead", alone, func(s *api.State) { s.Closed[0], s.Closed[3] = false, false }, false},
		{"no source is on", alone, func(s *api.State) { s.On = []bool{false, false} }, false},
		{"one source is on", alone, func(s *api.State) { s.On[0] = false }, true},
		{"sources have failed", alone, func(s *api.State) { s.BadSource = []bool{true, true} }, false},
		{"breakers have failed", alone, func(s *api.State) { s.BadLink[0], s.BadLink[3] = true, true }, false},
		{"buses of sources have failed", alone, func(s *api.State) { s.BadBus[0], s.BadBus[3] = true, true }, false},
		{"its first bus has failed", alone, func(s *api.State) { s.BadBus[1] = true }, false},
		{"its second bus has failed", alone, func(s *api.State) { s.BadBus[2] = true }, false},
		{"both its buses have failed", alone, func(s *api.State) { s.BadBus[1], s.BadBus[2] = true, true }, false},
		{"another way", all, func(s *api.State) {}, false},
		{"another way with one source", all, func(s *api.State) { s.On[1] = false }, false},
		{"another way that has failed", all, func(s *api.State) { s.BadLink[2] = true }, true},
		{"another way and its first bus has failed", all, func(s *api.State) { s.BadBus[1] = true }, false},
	} {
		open := changed(c.s, func(s *api.State) { c.change(s); s.Closed[1] = false })
		closed := changed(c.s, c.change)
		want := api.OK
		if c.arc {
			want = api.ErrArc
		}
		if u, e := steps.Do(p, open, step(api.Close, 1)); e != want || e == api.OK && !sameState(u, closed) {
			t.Error(c.name, "Close", u, e)
		}
		if u, e := steps.Do(p, closed, step(api.Open, 1)); e != want || e == api.OK && !sameState(u, open) {
			t.Error(c.name, "Open", u, e)
		}
		p.Links[1].Kind = api.Breaker
		_, e := steps.Do(p, open, step(api.Close, 1))
		_, f := steps.Do(p, closed, step(api.Open, 1))
		if e != api.OK || f != api.OK {
			t.Error(c.name, "a breaker:", e, f)
		}
		p.Links[1].Kind = api.Switch
	}
}

// TestFirstExample is the chapter's first example.
func TestFirstExample(t *testing.T) {
	p, s := parsed(t, chapter)
	s.Closed[1] = false
	if u, e := steps.Do(p, s, step(api.Close, 1)); e != api.ErrArc || !zeroState(u) {
		t.Error(u, e)
	}
	s.Closed[0] = false
	if u, e := steps.Do(p, s, step(api.Close, 1)); e != api.OK || !u.Closed[1] || u.Closed[0] {
		t.Error(u, e)
	}
}
