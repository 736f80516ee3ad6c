package acts_test

import (
	"slices"
	"testing"

	"switchgear/acts"
	"switchgear/api"
)

// TestCauses has racks that become dark, and some that are fed again.
func TestCauses(t *testing.T) {
	x := scripted(two, item(api.Open, 0), item(api.Open, 1))
	none := []acts.Cause{}
	for _, c := range []struct {
		name   string
		events []acts.Event
		want   []acts.Cause
	}{
		{"nothing", nil, none},
		{"one way is left", []acts.Event{next}, none},
		{"none is left", []acts.Event{next, next}, []acts.Cause{{0, 1}, {1, 1}, {2, 1}}},
		{"fed again", []acts.Event{next, next, undo}, none},
		{"the bus has failed", []acts.Event{failed(bus(1))}, []acts.Cause{{1, 0}}},
		{"other parts before and after", []acts.Event{failed(bus(2)), failed(bus(1)), failed(bus(3))}, []acts.Cause{{0, 1}, {1, 1}, {2, 1}}},
		{"one rack after the other", []acts.Event{failed(bus(1)), failed(link(3)), failed(bus(2))}, []acts.Cause{{0, 1}, {1, 0}, {2, 2}}},
		{"it had failed already", []acts.Event{failed(bus(1)), failed(bus(1))}, []acts.Cause{{1, 0}}},
		{"fed again, and dark again", []acts.Event{failed(bus(1)), mended(bus(1)), failed(source(0))}, []acts.Cause{{0, 2}, {1, 2}, {2, 2}}},
		{"dark twice by the same part", []acts.Event{failed(bus(1)), mended(bus(1)), failed(link(1)), failed(bus(1))}, []acts.Cause{{0, 3}, {1, 3}, {2, 3}}},
		{"mended, but dark", []acts.Event{failed(bus(1)), failed(source(0)), mended(bus(1))}, []acts.Cause{{0, 1}, {1, 0}, {2, 1}}},
		{"a step after it was dark", []acts.Event{failed(source(0)), next, next, undo}, []acts.Cause{{0, 0}, {1, 0}, {2, 0}}},
		{"a step that was undone", []acts.Event{failed(link(3)), next, next, undo, undo, failed(bus(3))}, []acts.Cause{{0, 5}}},
	} {
		r, m := begun(t, x)
		for _, event := range c.events {
			if e := act(r, event); e != api.OK {
				t.Fatal(c.name, event, e)
			}
			act(m, event)
		}
		if l, e := r.Causes(); e != api.OK || !slices.Equal(l, c.want) || !slices.Equal(l, m.causes()) {
			t.Error(c.name, l, m.causes(), e)
		}
	}
}

// TestNoCauses has racks that were not fed at the beginning.
func TestNoCauses(t *testing.T) {
	x := scripted(chapter, waiting(api.Close, 0)).with(func(x *script) { x.s.Closed[0] = false })
	for _, events := range [][]acts.Event{
		nil, {next}, {next, undo}, {next, acked(4), undo}, {failed(link(1))}, {next, failed(source(0))},
		{next, failed(source(0)), mended(source(0)), failed(bus(0))},
	} {
		if l, e := all(t, x, events...).Causes(); e != api.OK || len(l) != 0 {
			t.Error(events, l, e)
		}
	}
	// The acknowledgement is an event, too, and does not make the rack dark.
	x = example()
	for _, c := range []struct {
		events []acts.Event
		cause  int
	}{{[]acts.Event{next, acked(1)}, 0}, {[]acts.Event{failed(link(0)), mended(link(0)), next, acked(1), next}, 2}} {
		if l, e := all(t, x, c.events...).Causes(); e != api.OK || !slices.Equal(l, []acts.Cause{{0, c.cause}}) {
			t.Error(c.events, l, e)
		}
	}
	x.p.Racks = nil
	if l, e := all(t, x, next).Causes(); e != api.OK || len(l) != 0 {
		t.Error("no racks", l, e)
	}
}
