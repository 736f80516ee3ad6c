package acts_test

import (
	"math"
	"slices"
	"testing"

	"switchgear/acts"
	"switchgear/api"
)

// TestFirstExample is the chapter's first example.
func TestFirstExample(t *testing.T) {
	x := example()
	r, m := begun(t, x)
	for i, c := range []struct {
		event acts.Event
		want  api.Errno
	}{
		{next, api.OK}, {next, api.ErrAck}, {acked(7), api.OK}, {next, api.OK}, {next, api.ErrNone},
		{undo, api.OK}, {undo, api.OK}, {undo, api.ErrNone}, {next, api.ErrState},
	} {
		e, f := act(r, c.event), act(m, c.event)
		if s := look(t, r); e != c.want || f != c.want || !s.same(m.seen()) {
			t.Errorf("%d: %d %d, %+v", i, e, f, s)
		}
	}
	s := look(t, r)
	want := []acts.Event{did(api.Open, 0), acked(7), did(api.Open, 1), undid(api.Close, 1), undid(api.Close, 0)}
	if !slices.Equal(s.log, want) || !sameState(s.state, x.s) || s.status != (acts.Status{Left: 2, Back: true}) {
		t.Errorf("%+v", s)
	}
}

// TestSecondExample is the chapter's second example.
func TestSecondExample(t *testing.T) {
	r := all(t, example(), next, failed(link(0)))
	refused(t, "the breaker has failed", r, undo, api.ErrBad)
	if e := act(r, mended(link(0))); e != api.OK {
		t.Error(e)
	}
	if e := act(r, undo); e != api.OK {
		t.Error(e)
	}
	if s := look(t, r); !s.state.Closed[0] || s.status != (acts.Status{Left: 2, Back: true}) {
		t.Errorf("%+v", s)
	}
}

// TestThirdExample is the chapter's third example.
func TestThirdExample(t *testing.T) {
	r := all(t, example(), next, acked(1), next)
	if l, e := r.Causes(); e != api.OK || !slices.Equal(l, []acts.Cause{{Rack: 0, Event: 0}}) {
		t.Error(l, e)
	}
}

// TestNext has what Next is refused for.
func TestNext(t *testing.T) {
	x := example()
	refused(t, "it waits", all(t, x, next), next, api.ErrAck)
	refused(t, "all items are done", all(t, x, next, acked(1), next), next, api.ErrNone)
	refused(t, "it goes back", all(t, x, next, undo), next, api.ErrState)
	refused(t, "it goes back, and has items left to undo", all(t, x, next, acked(1), next, undo), next, api.ErrState)
	last := x.with(func(x *script) { x.l[1].Ack = true })
	refused(t, "it waits and all items are done", all(t, last, next, acked(1), next), next, api.ErrAck)
	refused(t, "no items", all(t, x.with(func(x *script) { x.l = nil })), next, api.ErrNone)
	refused(t, "it goes back, and what is left cannot be done", all(t, x, next, undo, failed(link(0))), next, api.ErrState)
	refused(t, "it waits, and what is left cannot be done", all(t, x, next, failed(link(1))), next, api.ErrAck)
}

// TestNextAfterFailures has steps that cannot be done any more, and states that would not be legal.
func TestNextAfterFailures(t *testing.T) {
	x := example()
	refused(t, "the breaker has failed", all(t, x, failed(link(0))), next, api.ErrBad)
	refused(t, "the switch has failed", all(t, x, next, acked(1), failed(link(1))), next, api.ErrBad)
	all(t, x, failed(link(0)), mended(link(0)), next)
	arc := scripted(two, item(api.Open, 2)).with(func(x *script) { x.p.Links[2].Kind = api.Switch })
	refused(t, "the other way has failed", all(t, arc, failed(bus(2))), next, api.ErrArc)
	fed := scripted(two, item(api.Open, 0)).with(func(x *script) { x.t.Fed = []int{0} })
	all(t, fed, next)
	refused(t, "the rack would be dark", all(t, fed, failed(link(3))), next, api.ErrDark)
	refused(t, "the rack is dark already", all(t, fed, failed(source(0))), next, api.ErrDark)
	all(t, fed, failed(source(0)), mended(source(0)), next)
	earthed := scripted(chapter, item(api.Open, 0), item(api.Earth, 1))
	earthed.p.Links = append(earthed.p.Links, api.Link{A: 1, B: 2, Kind: api.Breaker, Most: 1, Ohm: 10})
	earthed.p.Sources = append(earthed.p.Sources, api.Source{Bus: 2, Kind: api.Grid, Power: 1, Ohm: 10})
	earthed.s = start(earthed.p)
	earthed.s.Closed[1], earthed.s.Closed[2], earthed.s.BadSource[1] = false, true, true
	refused(t, "a source is mended", all(t, earthed, next, mended(source(1))), next, api.ErrEarthed)
}

// TestAck acknowledges, or must not.
func TestAck(t *testing.T) {
	x := example()
	for _, who := range []int{1, 2, 999, 1000} {
		r := all(t, x, next, acked(who))
		if s := look(t, r); s.status != (acts.Status{Done: 1, Left: 1}) || s.log[1] != acked(who) {
			t.Errorf("%+v", s)
		}
		refused(t, "once more", r, acked(who), api.ErrState)
	}
	for _, who := range []int{0, -1, 1001, math.MinInt, math.MaxInt} {
		refused(t, "who", all(t, x, next), acked(who), api.ErrArg)
		refused(t, "who, and it does not wait", all(t, x), acked(who), api.ErrState)
	}
	refused(t, "at the beginning", all(t, x), acked(1), api.ErrState)
	refused(t, "after an item without", all(t, x, next, acked(1), next), acked(1), api.ErrState)
	refused(t, "it went back", all(t, x, next, undo), acked(1), api.ErrState)
}

// TestUndo goes back from wherever a run is.
func TestUndo(t *testing.T) {
	x := example()
	refused(t, "no item is done", all(t, x), undo, api.ErrNone)
	refused(t, "no item is done any more", all(t, x, next, undo), undo, api.ErrNone)
	refused(t, "no item at all", all(t, x.with(func(x *script) { x.l = nil })), undo, api.ErrNone)
	s := look(t, all(t, x, next, undo))
	if s.status != (acts.Status{Left: 2, Back: true}) || !slices.Equal(s.log, []acts.Event{did(api.Open, 0), undid(api.Close, 0)}) {
		t.Errorf("while it waits: %+v", s)
	}
	s = look(t, all(t, x, next, acked(3), next, undo))
	if s.status != (acts.Status{Done: 1, Left: 1, Back: true}) || s.log[3] != undid(api.Close, 1) {
		t.Errorf("the last item: %+v", s)
	}
	refused(t, "the switch has failed", all(t, x, next, acked(1), next, failed(link(1))), undo, api.ErrBad)
	all(t, x, next, acked(1), next, failed(link(1)), mended(link(1)), undo, undo)
	refused(t, "the breaker has failed", all(t, x, next, acked(1), next, undo, failed(link(0))), undo, api.ErrBad)
	refused(t, "it waits, and the breaker has failed", all(t, x, next, failed(link(0))), undo, api.ErrBad)
	fed := scripted(two, item(api.Open, 0), item(api.Close, 0)).with(func(x *script) { x.t.Fed = []int{0} })
	refused(t, "the rack would be dark", all(t, fed, next, next, failed(link(1))), undo, api.ErrDark)
	arc := scripted(chapter, item(api.Open, 0), item(api.Stop, 0), item(api.Start, 0))
	all(t, arc, next, next, next, undo, undo, undo)
}

// TestParts lets parts fail, and mends them, in all cases.
func TestParts(t *testing.T) {
	x := scripted(two, waiting(api.Open, 0))
	for _, part := range []api.Part{bus(0), bus(3), source(0), link(0), link(3)} {
		for _, before := range [][]acts.Event{nil, {next}, {next, acked(2)}, {next, undo}} {
			r, m := begun(t, x)
			for _, event := range before {
				act(r, event)
				act(m, event)
			}
			for i, event := range []acts.Event{mended(part), failed(part), failed(part), mended(part), mended(part), failed(part)} {
				status := look(t, r).status
				e, f := act(r, event), act(m, event)
				s := look(t, r)
				flags := map[api.PartKind][]bool{api.BusPart: s.state.BadBus, api.SourcePart: s.state.BadSource, api.LinkPart: s.state.BadLink}[part.Kind]
				if e != api.OK || f != api.OK || !s.same(m.seen()) || s.status != status || flags[part.Index] != (event.Kind == acts.Failed) {
					t.Errorf("%d %+v: %d, %+v", i, event, e, s)
				}
				if len(s.log) != len(before)+i+1 || s.log[len(before)+i] != event {
					t.Error(event, s.log)
				}
			}
		}
	}
	for _, part := range []api.Part{{}, {Kind: 4}, {Kind: -1}, bus(-1), bus(4), source(1), link(4), link(math.MinInt), bus(math.MaxInt), {Kind: math.MaxInt, Index: 0}} {
		refused(t, "no part", all(t, x), failed(part), api.ErrPart)
		refused(t, "no part", all(t, x, next), mended(part), api.ErrPart)
	}
}

// TestLegal looks at states that parts that fail have made illegal.
func TestLegal(t *testing.T) {
	x := scripted(two).with(func(x *script) { x.t.Fed = []int{1} })
	for _, c := range []struct {
		events []acts.Event
		want   api.Errno
	}{
		{nil, api.OK}, {[]acts.Event{failed(link(1))}, api.OK}, {[]acts.Event{failed(bus(1))}, api.ErrDark},
		{[]acts.Event{failed(link(0))}, api.OK}, {[]acts.Event{failed(link(0)), failed(link(2))}, api.ErrDark},
		{[]acts.Event{failed(link(0)), failed(link(2)), mended(link(0))}, api.OK},
	} {
		if e := all(t, x, c.events...).Legal(); e != c.want {
			t.Error(c.events, e)
		}
	}
	// The crew counts, and what does not count for a run does not.
	crew := scripted(chapter, item(api.Open, 0), item(api.Stop, 0)).with(func(x *script) {
		x.s.Closed[1], x.s.Locked[1], x.s.Earthed[2] = false, true, true
		x.t.Crew = []int{2}
		x.t.Goal = x.t.Allowed
	})
	r := all(t, crew, next, next)
	if e := r.Legal(); e != api.OK {
		t.Error(e)
	}
	notBegun(t, "the crew would not be safe", crew.with(func(x *script) { x.l = append(x.l, item(api.Unlock, 1)) }), 2, api.ErrZone)
}
