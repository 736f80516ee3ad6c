package steps_test

import (
	"math"
	"slices"
	"testing"

	"switchgear/api"
	"switchgear/steps"
)

func TestCheckTask(t *testing.T) {
	p, s := parsed(t, ring)
	right := steps.Task{Fed: []int{1, 0, 1}, Crew: []int{4, 4}, Allowed: stepsOf(p)[:24], Goal: stepsOf(p)[8:]}
	if e := steps.CheckTask(p, right); e != api.OK {
		t.Error(e)
	}
	if e := steps.CheckTask(p, steps.Task{}); e != api.OK {
		t.Error("nothing:", e)
	}
	if e := steps.CheckTask(p, steps.Task{Fed: []int{}, Crew: []int{}, Allowed: []api.Step{}, Goal: []api.Step{}}); e != api.OK {
		t.Error("empty lists:", e)
	}
	one := []api.Step{step(api.Open, 0)}
	for i, c := range []struct {
		t steps.Task
		e api.Errno
	}{
		{steps.Task{Fed: make([]int, 24), Crew: make([]int, 24), Allowed: slices.Repeat(one, 24), Goal: slices.Repeat(one, 24)}, api.OK},
		{steps.Task{Fed: make([]int, 25)}, api.ErrArg},
		{steps.Task{Crew: make([]int, 25)}, api.ErrArg},
		{steps.Task{Allowed: slices.Repeat(one, 25)}, api.ErrArg},
		{steps.Task{Goal: slices.Repeat(one, 25)}, api.ErrArg},
	} {
		if e := steps.CheckTask(p, c.t); e != c.e {
			t.Error(i, e)
		}
	}
	for _, n := range []int{-1, 5, math.MinInt, math.MaxInt} {
		if e := steps.CheckTask(p, steps.Task{Crew: []int{0, n}}); e != api.ErrArg {
			t.Error("a bus:", n, e)
		}
		if e := steps.CheckTask(p, steps.Task{Fed: []int{n, 0}}); e != api.ErrArg {
			t.Error("a rack:", n, e)
		}
	}
	if e := steps.CheckTask(p, steps.Task{Fed: []int{2}}); e != api.ErrArg {
		t.Error("a rack that is none:", e)
	}
	for _, x := range noSteps() {
		for _, task := range []steps.Task{{Allowed: append(slices.Clone(one), x)}, {Goal: append(slices.Clone(one), x)}} {
			if e := steps.CheckTask(p, task); e != api.ErrArg {
				t.Error(task, e)
			}
			if e := steps.Legal(p, s, task); e != api.ErrArg {
				t.Error("Legal:", task, e)
			}
		}
	}
	p.Links[0].Most = 0
	if e := steps.CheckTask(p, steps.Task{Crew: []int{-1}}); e != api.ErrLink {
		t.Error("the plant's error comes before:", e)
	}
}

// TestLegalOrder begins with a state that has all errors, and takes away one after the other.
func TestLegalOrder(t *testing.T) {
	p, s := parsed(t, ring)
	s.Earthed[1], s.Closed = true, []bool{true, true}
	task := steps.Task{Fed: []int{1, 0}, Crew: []int{0, 9}}
	p.Sources[0].Ohm = 9
	for _, c := range []struct {
		e   api.Errno
		fix func()
	}{
		{api.ErrSource, func() { p.Sources[0].Ohm = 10 }},
		{api.ErrState, func() { s.Closed = []bool{true, true, false, true, false} }},
		{api.ErrArg, func() { task.Crew[1] = 1 }},
		{api.ErrEarthed, func() { s.Earthed[1] = false }},
		{api.ErrParallel, func() { s.On[1], s.Closed[1] = false, false }},
		{api.ErrDark, func() { task.Fed = []int{0} }},
		{api.ErrZone, func() { task.Crew = nil }},
		{api.OK, func() {}},
	} {
		if e := steps.Legal(p, s, task); e != c.e {
			t.Errorf("%d, not %d", e, c.e)
		}
		c.fix()
	}
}

func TestLegalEarths(t *testing.T) {
	p, s := parsed(t, chapter)
	for bus := range 3 {
		u := changed(s, func(s *api.State) { s.Earthed[bus] = true })
		if e := steps.Legal(p, u, steps.Task{}); e != api.ErrEarthed {
			t.Error(bus, e)
		}
		u.Closed[0], u.Closed[1] = false, false
		if e := steps.Legal(p, u, steps.Task{}); (e == api.ErrEarthed) != (bus == 0) || bus != 0 && e != api.OK {
			t.Error("open:", bus, e)
		}
		u.On[0] = false
		if e := steps.Legal(p, u, steps.Task{}); e != api.OK {
			t.Error("off:", bus, e)
		}
	}
	s.Earthed[1], s.BadBus[1] = true, true
	if e := steps.Legal(p, s, steps.Task{}); e != api.OK {
		t.Error("a bus that has failed is not live:", e)
	}
}

func TestLegalSources(t *testing.T) {
	p, s := parsed(t, across)
	for _, c := range []struct {
		sync [2]int
		e    api.Errno
	}{{[2]int{1, 1}, api.OK}, {[2]int{0, 0}, api.ErrParallel}, {[2]int{1, 0}, api.ErrParallel}, {[2]int{1, 2}, api.ErrParallel}} {
		p.Sources[0].Sync, p.Sources[1].Sync = c.sync[0], c.sync[1]
		if e := steps.Legal(p, s, steps.Task{}); e != c.e {
			t.Error(c.sync, e)
		}
		if e := steps.Legal(p, changed(s, func(s *api.State) { s.Closed[0] = false }), steps.Task{}); e != api.OK {
			t.Error("two islands:", c.sync, e)
		}
		if e := steps.Legal(p, changed(s, func(s *api.State) { s.On[0] = false }), steps.Task{}); e != api.OK {
			t.Error("one source:", c.sync, e)
		}
	}
}

func TestLegalRacks(t *testing.T) {
	p, s := parsed(t, ring)
	s.On = []bool{true, false, false}
	s.Closed = []bool{true, false, false, true, false} // buses 0 and 1 are live: rack 0 has one feed, rack 1 none
	for i, c := range []struct {
		fed []int
		e   api.Errno
	}{{nil, api.OK}, {[]int{0}, api.OK}, {[]int{1}, api.ErrDark}, {[]int{0, 1}, api.ErrDark}, {[]int{0, 0, 0}, api.OK}} {
		if e := steps.Legal(p, s, steps.Task{Fed: c.fed}); e != c.e {
			t.Error(i, e)
		}
	}
	s.Closed = []bool{false, false, false, true, true} // buses 0, 3 and 4 are live
	if e := steps.Legal(p, s, steps.Task{Fed: []int{0}}); e != api.OK {
		t.Error("the second feed:", e)
	}
	s.Closed[4] = false
	if e := steps.Legal(p, s, steps.Task{Fed: []int{0}}); e != api.ErrDark {
		t.Error("no feed:", e)
	}
}

// zone is a plant in which people can work at the buses 1 and 2, with a source at each bus.
const zone = `plant 4
source 0 grid 500 1 20
source 1 battery 500 1 20
source 2 battery 500 1 20
link 0 1 breaker 400 10
link 1 2 breaker 400 10
link 2 3 switch 400 10
link 2 1 cable 400 10
`

func TestLegalZone(t *testing.T) {
	p, s := parsed(t, zone)
	s.On = []bool{true, false, false}
	s.Closed = []bool{false, false, false, true}
	s.Locked = []bool{true, false, true, false}
	s.Earthed = []bool{false, true, true, false}
	crew := steps.Task{Crew: []int{2, 1}}
	for _, c := range []struct {
		name   string
		change func(s *api.State)
		e      api.Errno
	}{
		{"safe", func(s *api.State) {}, api.OK},
		{"the first bus is not earthed", func(s *api.State) { s.Earthed[2] = false }, api.ErrZone},
		{"the second bus is not earthed", func(s *api.State) { s.Earthed[1] = false }, api.ErrZone},
		{"no bus is earthed", func(s *api.State) { s.Earthed[1], s.Earthed[2] = false, false }, api.ErrZone},
		{"a source is on, but has failed", func(s *api.State) { s.On[1], s.BadSource[1] = true, true }, api.ErrZone},
		{"the other source is on, but its bus has failed", func(s *api.State) { s.On[2], s.BadBus[1], s.BadBus[2] = true, true, true }, api.ErrZone},
		{"a source is on and feeds", func(s *api.State) { s.On[1] = true }, api.ErrEarthed},
		{"a source of another bus is off", func(s *api.State) { s.On[0] = false }, api.OK},
		{"a link from the crew is not locked", func(s *api.State) { s.Locked[2] = false }, api.ErrZone},
		{"a link to the crew is not locked", func(s *api.State) { s.Locked[0] = false }, api.ErrZone},
		{"a link from the crew is closed", func(s *api.State) { s.Closed[2] = true }, api.ErrZone},
		{"a link to the crew is closed", func(s *api.State) { s.On[0], s.Closed[0] = false, true }, api.ErrZone},
		{"it is closed and has failed", func(s *api.State) { s.Closed[2], s.BadLink[2] = true, true }, api.ErrZone},
		{"a link of the crew is closed", func(s *api.State) { s.Closed[1] = true }, api.OK},
		{"a link of the crew is closed and locked", func(s *api.State) { s.Closed[1], s.Locked[1] = true, true }, api.OK},
		{"a link of the crew is locked", func(s *api.State) { s.Locked[1] = true }, api.OK},
		{"another bus is earthed", func(s *api.State) { s.Earthed[3] = true }, api.OK},
		{"a bus of the crew has failed", func(s *api.State) { s.BadBus[1] = true }, api.OK},
	} {
		if e := steps.Legal(p, changed(s, c.change), crew); e != c.e {
			t.Error(c.name, e)
		}
	}
	s.Locked[1] = true
	for _, c := range []struct {
		name string
		crew []int
		e    api.Errno
	}{
		{"a cable leads out of bus 1", []int{1}, api.ErrZone},
		{"a cable leads out of bus 2", []int{2}, api.ErrZone},
		{"it does not", []int{1, 2, 1}, api.OK},
		{"a bus that is not earthed, too", []int{1, 2, 3}, api.ErrZone},
		{"nobody", nil, api.OK},
	} {
		if e := steps.Legal(p, s, steps.Task{Crew: c.crew}); e != c.e {
			t.Error(c.name, e)
		}
	}
	s.Earthed[3], s.Locked[2], s.Closed[2] = true, false, true
	if e := steps.Legal(p, s, steps.Task{Crew: []int{1, 2, 3}}); e != api.OK {
		t.Error("a link that leads out no more:", e)
	}
}
