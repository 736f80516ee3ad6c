package acts_test

import (
	"math"
	"slices"
	"testing"

	"switchgear/acts"
	"switchgear/api"
	"switchgear/steps"
)

// notBegun checks that a procedure does not begin, and that its log is not replayed.
func notBegun(t *testing.T, name string, x script, at int, want api.Errno) {
	t.Helper()
	if r, n, e := acts.Begin(x.p, x.s, x.t, x.l); r != nil || n != at || e != want {
		t.Error(name, r, n, e)
	}
	for _, log := range [][]acts.Event{nil, {did(api.Open, 0)}, {{}}, make([]acts.Event, 1001)} {
		if r, n, e := acts.Replay(x.p, x.s, x.t, x.l, log); r != nil || n != at || e != want {
			t.Error(name, "Replay", r, n, e)
		}
	}
}

// TestBegin looks at runs that are just begun.
func TestBegin(t *testing.T) {
	locks := make([]acts.Item, 0, 65)
	for i := range 65 {
		locks = append(locks, acts.Item{Step: step([]api.Deed{api.Lock, api.Unlock}[i%2], 0), Ack: i%3 == 0})
	}
	for _, l := range [][]acts.Item{nil, {}, locks[:1], locks[:2], locks[:63], locks[:64]} {
		x := scripted(chapter, l...)
		r, m := begun(t, x)
		if s := look(t, r); !s.same(m.seen()) || s.status != (acts.Status{Left: len(l)}) || !sameState(s.state, x.s) || len(s.log) != 0 {
			t.Errorf("%d items: %+v", len(l), s)
		}
	}
	notBegun(t, "65 items", scripted(chapter, locks...), 0, api.ErrMany)
	notBegun(t, "many items that are none", scripted(chapter, make([]acts.Item, 1000)...), 0, api.ErrMany)
	notBegun(t, "64 items that are none", scripted(chapter, make([]acts.Item, 64)...), 0, api.ErrArg)
}

// TestBeginSteps has procedures of which one step cannot be carried out.
func TestBeginSteps(t *testing.T) {
	right := []acts.Item{waiting(api.Open, 0), item(api.Open, 1), item(api.Stop, 0), item(api.Earth, 2), waiting(api.Lock, 1)}
	x := scripted(chapter, right...)
	begun(t, x)
	for _, c := range []struct {
		name   string
		at     int
		change acts.Item
		want   api.Errno
	}{
		{"the first is none", 0, item(0, 0), api.ErrArg},
		{"the first holds", 0, item(api.Close, 0), api.ErrDone},
		{"the first is an arc", 0, item(api.Open, 1), api.ErrArc},
		{"the first is not legal", 0, waiting(api.Earth, 1), api.ErrEarthed},
		{"a middle one is none", 2, item(api.Stop, 1), api.ErrArg},
		{"a middle one holds", 1, waiting(api.Unlock, 0), api.ErrDone},
		{"a middle one is not legal", 3, item(api.Start, 0), api.OK},
		{"a middle one is not legal", 2, item(api.Earth, 0), api.ErrEarthed},
		{"the last is none", 4, item(9, 1), api.ErrArg},
		{"the last holds", 4, item(api.Earth, 2), api.ErrDone},
		{"the last is not legal", 4, item(api.Earth, math.MinInt), api.ErrArg},
	} {
		y := x.with(func(x *script) { x.l[c.at] = c.change })
		if c.want == api.OK {
			begun(t, y)
			continue
		}
		notBegun(t, c.name, y, c.at, c.want)
	}
	notBegun(t, "the first of two", x.with(func(x *script) { x.l[1], x.l[3] = item(0, 0), item(0, 0) }), 1, api.ErrArg)
	fed := x.with(func(x *script) { x.t.Fed = []int{0} })
	notBegun(t, "the rack would be dark", fed, 0, api.ErrDark)
}

// TestBeginOther has plants, states and tasks that are not valid, and those in which a procedure cannot begin.
func TestBeginOther(t *testing.T) {
	for _, c := range []struct {
		name   string
		change func(x *script)
		want   api.Errno
	}{
		{"no plant", func(x *script) { x.p = api.Plant{} }, api.ErrBus},
		{"a source", func(x *script) { x.p.Sources[0].Bus = 3 }, api.ErrSource},
		{"a link", func(x *script) { x.p.Links[1].Kind = 0 }, api.ErrLink},
		{"a trip", func(x *script) { x.p.Links[0].Trip = []api.Trip{{}} }, api.ErrLink},
		{"a rack", func(x *script) { x.p.Racks[0].Paths = 2 }, api.ErrRack},
		{"no state", func(x *script) { x.s = api.State{} }, api.ErrState},
		{"a short state", func(x *script) { x.s.BadBus = x.s.BadBus[:2] }, api.ErrState},
		{"a rack of the task", func(x *script) { x.t.Fed = []int{1} }, api.ErrArg},
		{"a crew", func(x *script) { x.t.Crew = []int{-1} }, api.ErrArg},
		{"many racks", func(x *script) { x.t.Fed = make([]int, 25) }, api.ErrArg},
		{"an allowed step", func(x *script) { x.t.Allowed = []api.Step{{}} }, api.ErrArg},
		{"a goal", func(x *script) { x.t.Goal = []api.Step{step(api.Open, 2)} }, api.ErrArg},
		{"many allowed steps", func(x *script) { x.t.Allowed = slices.Repeat([]api.Step{step(api.Open, 0)}, 25) }, api.ErrArg},
		{"earthed", func(x *script) { x.s.Earthed[2] = true }, api.ErrEarthed},
		{"dark", func(x *script) { x.t.Fed, x.s.On[0] = []int{0}, false }, api.ErrDark},
		{"a crew that is not safe", func(x *script) { x.t.Crew = []int{2} }, api.ErrZone},
	} {
		x := example().with(c.change)
		notBegun(t, c.name, x, 0, c.want)
		notBegun(t, c.name+", no items", x.with(func(x *script) { x.l = nil }), 0, c.want)
		notBegun(t, c.name+", a step that is none", x.with(func(x *script) { x.l[0] = acts.Item{} }), 0, c.want)
		notBegun(t, c.name+", 65 items", x.with(func(x *script) { x.l = make([]acts.Item, 65) }), 0, api.ErrMany)
	}
	// What a search may use, and what it is for, does not matter in a run.
	x := example().with(func(x *script) {
		x.t = steps.Task{Allowed: []api.Step{step(api.Lock, 0)}, Goal: []api.Step{step(api.Lock, 1)}}
	})
	all(t, x, next, acked(1), next, undo, undo)
}
