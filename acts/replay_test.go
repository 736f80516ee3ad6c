package acts_test

import (
	"math"
	"slices"
	"testing"

	"switchgear/acts"
	"switchgear/api"
)

// replayed replays a log, which must give the same run as its events do one by one.
func replayed(t *testing.T, x script, log ...acts.Event) *acts.Run {
	t.Helper()
	r, n, e := acts.Replay(x.p, x.s, x.t, x.l, log)
	if r == nil || n != len(log) || e != api.OK {
		t.Fatalf("Replay: %v: %d %d", log, n, e)
	}
	m := newModel(x)
	for _, event := range log {
		act(m, event)
	}
	if s := look(t, r); !s.same(m.seen()) || !slices.Equal(s.log, log) {
		t.Errorf("%v: %+v", log, s)
	}
	return r
}

// notReplayed checks that a log is not replayed.
func notReplayed(t *testing.T, name string, x script, log []acts.Event, at int, want api.Errno) {
	t.Helper()
	if r, n, e := acts.Replay(x.p, x.s, x.t, x.l, log); r != nil || n != at || e != want {
		t.Error(name, r, n, e)
	}
}

// whole is a log of the chapter's example with all kinds of events.
func whole() []acts.Event {
	return []acts.Event{
		did(api.Open, 0), failed(link(0)), acked(7), did(api.Open, 1), undid(api.Close, 1), mended(link(0)), undid(api.Close, 0),
	}
}

func TestReplay(t *testing.T) {
	x := example()
	for n := range len(whole()) + 1 {
		r := replayed(t, x, whole()[:n]...)
		// What is replayed goes on like what was never stopped.
		for i, event := range whole()[n:] {
			if e := act(r, event); e != api.OK {
				t.Error(n, i, e)
			}
		}
		if l, e := r.Log(); e != api.OK || !slices.Equal(l, whole()) {
			t.Error(n, l, e)
		}
	}
	replayed(t, x.with(func(x *script) { x.l = nil }))
	replayed(t, x.with(func(x *script) { x.l = nil }), failed(bus(0)), mended(bus(2)))
}

// TestReplayForm has events that are none, at each place of a log: their form comes before the errors of the functions.
func TestReplayForm(t *testing.T) {
	x := example()
	log := whole()
	bare := map[acts.Kind]acts.Event{
		acts.Did: did(api.Open, 0), acts.Acked: acked(7), acts.Undid: undid(api.Close, 0), acts.Failed: failed(link(0)), acts.Mended: mended(link(0)),
	}
	var bad []acts.Event
	for _, kind := range []acts.Kind{0, 6, -1, 7, math.MinInt, math.MaxInt} {
		bad = append(bad, acts.Event{Kind: kind})
		for _, event := range bare {
			event.Kind = kind
			bad = append(bad, event)
		}
	}
	for kind, event := range bare {
		for _, more := range []func(x *acts.Event){
			func(x *acts.Event) { x.Step.Deed = api.Open },
			func(x *acts.Event) { x.Step.Index = 1 },
			func(x *acts.Event) { x.Part.Kind = api.BusPart },
			func(x *acts.Event) { x.Part.Index = -1 },
			func(x *acts.Event) { x.Who = 1 },
		} {
			y := event
			more(&y)
			belongs := (kind == acts.Did || kind == acts.Undid) && y.Step != event.Step ||
				(kind == acts.Failed || kind == acts.Mended) && y.Part != event.Part || kind == acts.Acked && y.Who != event.Who
			if y != event && !belongs {
				bad = append(bad, y)
			}
		}
	}
	// 36 of a kind that is none; of the five kinds 3, 4, 3, 3 and 3 that have what does not belong to them.
	if len(bad) != 36+3+4+3+3+3 {
		t.Fatal(len(bad))
	}
	for at := range len(log) + 1 {
		for _, event := range bad {
			l := append(slices.Clone(log[:at]), event)
			notReplayed(t, "the last", x, l, at, api.ErrForm)
			notReplayed(t, "with others after it", x, append(l, acts.Event{}, log[0]), at, api.ErrForm)
		}
	}
}

// TestReplaySteps has steps that are not those of Next or Undo, and errors of the functions before that.
func TestReplaySteps(t *testing.T) {
	x := example()
	for _, s := range []api.Step{{}, step(api.Close, 0), step(api.Open, 1), step(api.Open, -1), step(api.Lock, 0), step(0, 1)} {
		wrong, back := acts.Event{Kind: acts.Did, Step: s}, acts.Event{Kind: acts.Undid, Step: s}
		notReplayed(t, "not the first step", x, []acts.Event{wrong}, 0, api.ErrForm)
		notReplayed(t, "it waits", x, []acts.Event{did(api.Open, 0), wrong}, 1, api.ErrAck)
		notReplayed(t, "the part has failed", x, []acts.Event{failed(link(0)), wrong}, 1, api.ErrBad)
		notReplayed(t, "it goes back", x, []acts.Event{did(api.Open, 0), undid(api.Close, 0), wrong}, 2, api.ErrState)
		notReplayed(t, "all is done", x, []acts.Event{did(api.Open, 0), acked(1), did(api.Open, 1), wrong}, 3, api.ErrNone)
		notReplayed(t, "no item is done", x, []acts.Event{back}, 0, api.ErrNone)
		notReplayed(t, "the part has failed", x, []acts.Event{did(api.Open, 0), failed(link(0)), back}, 2, api.ErrBad)
		if s != step(api.Close, 0) {
			notReplayed(t, "not the inverse", x, []acts.Event{did(api.Open, 0), back}, 1, api.ErrForm)
		}
		if s != step(api.Open, 1) {
			notReplayed(t, "not the second step", x, []acts.Event{did(api.Open, 0), acked(1), wrong}, 2, api.ErrForm)
		}
	}
}

// TestReplayErrors has events whose functions have errors.
func TestReplayErrors(t *testing.T) {
	x := example()
	for _, c := range []struct {
		name string
		last acts.Event
		want api.Errno
		log  []acts.Event
	}{
		{"Next", did(api.Open, 0), api.ErrAck, []acts.Event{did(api.Open, 0)}},
		{"Next", did(api.Open, 0), api.ErrBad, []acts.Event{failed(link(0))}},
		{"Ack", acked(1), api.ErrState, nil},
		{"Ack", acked(0), api.ErrState, nil},
		{"Ack", acked(0), api.ErrArg, []acts.Event{did(api.Open, 0)}},
		{"Ack", acked(1001), api.ErrArg, []acts.Event{did(api.Open, 0)}},
		{"Ack", acked(1), api.ErrState, []acts.Event{did(api.Open, 0), acked(2)}},
		{"Undo", undid(api.Close, 0), api.ErrNone, nil},
		{"Undo", undid(api.Close, 0), api.ErrBad, []acts.Event{did(api.Open, 0), failed(link(0))}},
		{"Fail", failed(bus(3)), api.ErrPart, nil},
		{"Fail", failed(api.Part{}), api.ErrPart, []acts.Event{did(api.Open, 0), acked(2)}},
		{"Mend", mended(link(2)), api.ErrPart, nil},
		{"Mend", mended(api.Part{Kind: 4}), api.ErrPart, []acts.Event{failed(bus(0))}},
	} {
		notReplayed(t, c.name, x, append(slices.Clone(c.log), c.last), len(c.log), c.want)
		notReplayed(t, c.name+" and more", x, append(slices.Clone(c.log), c.last, acts.Event{}), len(c.log), c.want)
	}
}
