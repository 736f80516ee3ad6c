package guard_test

import (
	"math"
	"slices"
	"testing"

	"switchgear/api"
	"switchgear/guard"
)

func TestDelay(t *testing.T) {
	ordinary := []api.Trip{{Amps: 1000, Millis: 400}, {Amps: 5000, Millis: 50}}
	// No plant has tables like these.
	tangled := []api.Trip{{Amps: 5000, Millis: 50}, {Amps: -7, Millis: -3}, {Amps: 1000, Millis: 400}, {Amps: 1000, Millis: 0}, {Amps: 9000, Millis: 800}}
	long := slices.Repeat([]api.Trip{{Amps: 1, Millis: 9}}, 20)
	long = append(long, api.Trip{Amps: 2, Millis: 1000001})
	for _, c := range []struct {
		trips        []api.Trip
		amps, millis int
		ok           bool
	}{
		{ordinary, 999, 0, false},
		{ordinary, 1000, 400, true},
		{ordinary, 4999, 400, true},
		{ordinary, 5000, 50, true},
		{ordinary, math.MaxInt, 50, true},
		{ordinary, 0, 0, false},
		{ordinary, -1000, 0, false},
		{ordinary, math.MinInt, 0, false},
		{nil, 5000, 0, false},
		{[]api.Trip{}, 5000, 0, false},
		{tangled, 10000, 800, true},
		{tangled, 9000, 800, true},
		{tangled, 8999, 0, true},
		{tangled, 1000, 0, true},
		{tangled, 999, -3, true},
		{tangled, -7, -3, true},
		{tangled, -8, 0, false},
		{[]api.Trip{{Amps: 5000, Millis: 50}, {Amps: 1000, Millis: 400}}, 6000, 400, true},
		{[]api.Trip{{Amps: math.MinInt, Millis: math.MaxInt}}, math.MinInt, math.MaxInt, true},
		{[]api.Trip{{Amps: math.MaxInt, Millis: math.MinInt}}, math.MaxInt, math.MinInt, true},
		{[]api.Trip{{Amps: math.MaxInt, Millis: 5}}, math.MaxInt - 1, 0, false},
		{[]api.Trip{{Amps: 0, Millis: 5}}, 0, 5, true},
		{long, 1, 9, true},
		{long, 2, 1000001, true},
	} {
		kept := slices.Clone(c.trips)
		for _, kind := range []api.LinkKind{api.Breaker, api.Switch, api.Cable, 0, -1, 9} {
			x := api.Link{A: 3, B: -1, Kind: kind, Trip: c.trips}
			if millis, ok := guard.Delay(x, c.amps); millis != c.millis || ok != c.ok {
				t.Errorf("%v of the kind %d with %d: %d %v", c.trips, kind, c.amps, millis, ok)
			}
		}
		if !slices.Equal(kept, c.trips) {
			t.Error("the trips were changed", c.trips)
		}
	}
}

// clears checks how a fault is cleared.
func clears(t *testing.T, name string, p api.Plant, s api.State, bus int, want guard.Clearing) {
	t.Helper()
	if x, e := guard.Clear(p, s, bus); e != api.OK || !same(x, want) {
		t.Errorf("%s: %+v %d, not %+v", name, x, e, want)
	}
}

// wants returns a clearing whose last event gives its Millis and whose events give its State.
func wants(s api.State, cleared bool, energy int, events ...guard.Event) guard.Clearing {
	x := guard.Clearing{Events: events, Cleared: cleared, Energy: energy, State: copyState(s)}
	for _, event := range events {
		x.Millis = event.Millis
		x.State.Closed[event.Link] = false
	}
	return x
}

func TestChapterClear(t *testing.T) {
	p, s := parsed(t, chapter)
	clears(t, "first example", p, s, 2, wants(s, true, 5000000, guard.Event{Millis: 50, Link: 1}))
	p.Links[1].Trip = nil
	clears(t, "second example", p, s, 2, wants(s, true, 10000000, guard.Event{Millis: 100, Link: 0}))
	p.Links[1].Trip = []api.Trip{{Amps: 10000, Millis: 100}}
	clears(t, "third example", p, s, 2, wants(s, true, 10000000, guard.Event{Millis: 100, Link: 0}, guard.Event{Millis: 100, Link: 1}))
}

// whole is the plant of layer 5 in DOC.md's examples.
const whole = `plant 4
source 0 grid 500 0 20
source 1 grid 500 0 20
link 0 2 breaker 400 10 100:20
link 1 3 breaker 400 10 100:20
link 2 3 breaker 400 10 100:20
rack 2 3 100 2
`

func TestWholeExample(t *testing.T) {
	p, s := parsed(t, whole)
	s.Closed[2] = false
	clears(t, "bus 2", p, s, 2, wants(s, true, 3555920, guard.Event{Millis: 20, Link: 0}))
	clears(t, "bus 0", p, s, 0, wants(s, false, 0))
	if ok, e := guard.Selective(p, s, 2); !ok || e != api.OK {
		t.Error(ok, e)
	}
}

// TestClearStates changes the state of the first example, and faults each bus.
func TestClearStates(t *testing.T) {
	first, second := guard.Event{Millis: 100, Link: 0}, guard.Event{Millis: 50, Link: 1}
	for _, c := range []struct {
		name    string
		change  func(s *api.State)
		bus     int
		cleared bool
		energy  int
		events  []guard.Event
	}{
		{"at the source", func(s *api.State) {}, 0, false, 0, nil},
		{"between", func(s *api.State) {}, 1, true, 17779600, []guard.Event{first}},
		{"locked", func(s *api.State) { s.Locked = []bool{true, true} }, 2, true, 5000000, []guard.Event{second}},
		{"earthed", func(s *api.State) { s.Earthed = []bool{true, true, true} }, 2, true, 5000000, []guard.Event{second}},
		{"a bus that has failed", func(s *api.State) { s.BadBus[2] = true }, 2, true, 0, nil},
		{"a bus that has failed, with a source", func(s *api.State) { s.BadBus[0] = true }, 0, true, 0, nil},
		{"another bus has failed", func(s *api.State) { s.BadBus[2] = true }, 1, true, 17779600, []guard.Event{first}},
		{"a bus on the way has failed", func(s *api.State) { s.BadBus[1] = true }, 2, true, 0, nil},
		{"a breaker has failed", func(s *api.State) { s.BadLink[0] = true }, 2, true, 0, nil},
		{"a breaker is open", func(s *api.State) { s.Closed[1] = false }, 2, true, 0, nil},
		{"the source is off", func(s *api.State) { s.On[0] = false }, 0, true, 0, nil},
		{"the source has failed", func(s *api.State) { s.BadSource[0] = true }, 2, true, 0, nil},
	} {
		p, s := parsed(t, chapter)
		c.change(&s)
		clears(t, c.name, p, s, c.bus, wants(s, c.cleared, c.energy, c.events...))
	}
}

// TestClearPlants has plants whose currents change while breakers wait. All links are closed.
func TestClearPlants(t *testing.T) {
	for _, c := range []struct {
		name, text string
		bus        int
		cleared    bool
		energy     int
		events     []guard.Event
	}{
		{
			"nothing at all", "plant 1\n", 0, true, 0, nil,
		}, {
			"a current that stays the same goes on waiting",
			"plant 3\nsource 0 grid 1 0 20\nsource 2 grid 1 0 30\nlink 0 1 breaker 1 20 1:100\nlink 1 2 breaker 1 10 1:70\n", 1,
			// 10000 amperes of each source.
			true, 400000*70 + 100000*30, []guard.Event{{Millis: 70, Link: 1}, {Millis: 100, Link: 0}},
		}, {
			"a current that becomes less waits again",
			"plant 3\nsource 0 grid 1 0 30\nsource 2 grid 1 0 20\nlink 0 1 breaker 1 10 1:100\nlink 2 0 breaker 1 10 1:70\n", 1,
			// 10000 amperes of each source; both go through the first breaker.
			true, 400000*70 + 100000*100, []guard.Event{{Millis: 70, Link: 1}, {Millis: 170, Link: 0}},
		}, {
			"a current that becomes less has a greater delay",
			"plant 3\nsource 0 grid 1 0 30\nsource 2 grid 1 0 20\nlink 0 1 breaker 1 10 10000:300 20000:100\nlink 2 0 breaker 1 10 1:70\n", 1,
			true, 400000*70 + 100000*300, []guard.Event{{Millis: 70, Link: 1}, {Millis: 370, Link: 0}},
		}, {
			"a current that becomes less has no delay any more",
			"plant 3\nsource 0 grid 1 0 30\nsource 2 grid 1 0 20\nlink 0 1 breaker 1 10 10001:100\nlink 2 0 breaker 1 10 1:70\n", 1,
			false, 400000 * 70, []guard.Event{{Millis: 70, Link: 1}},
		}, {
			"a current that takes another way",
			"plant 2\nsource 0 grid 1 0 10\nlink 0 1 breaker 1 30 1:90\nlink 0 1 breaker 1 10 1:40\n", 1,
			true, 400000*40 + 100000*90, []guard.Event{{Millis: 40, Link: 1}, {Millis: 130, Link: 0}},
		}, {
			"a current that becomes greater waits again",
			"plant 4\nsource 0 grid 1 0 20\nsource 3 grid 1 0 10\nlink 0 1 breaker 1 20 1:100 15000:60\nlink 3 2 breaker 1 10 1:70\nlink 2 1 breaker 1 20 1:200\nlink 3 0 breaker 1 50 1:999\n", 1,
			// The second source has 40 milliohms over bus 2, and 80 over bus 0, with which the first breaker carries 15000.
			true, 400000*70 + 225000*60, []guard.Event{{Millis: 70, Link: 1}, {Millis: 130, Link: 0}},
		}, {
			"a current that stays the same over another way goes on waiting",
			"plant 3\nsource 0 grid 1 0 20\nlink 0 1 breaker 1 10 1:30\nlink 0 1 breaker 1 10 1:200\nlink 1 2 breaker 1 10 1:90\n", 2,
			true, 100000 * 90, []guard.Event{{Millis: 30, Link: 0}, {Millis: 90, Link: 2}},
		}, {
			"due at one time, but not armed at one time",
			"plant 4\nsource 0 grid 1 0 30\nsource 2 grid 1 0 20\nsource 3 grid 1 0 30\nlink 0 1 breaker 1 10 10000:30 20000:25\nlink 2 0 breaker 1 10 1:20\nlink 3 1 breaker 1 10 1:50\n", 1,
			true, 900000*20 + 400000*30, []guard.Event{{Millis: 20, Link: 1}, {Millis: 50, Link: 0}, {Millis: 50, Link: 2}},
		}, {
			"no current is left for a breaker that waits, and a cable goes on",
			"plant 3\nsource 0 grid 1 0 10\nlink 0 1 breaker 1 10 1:20\nlink 1 2 breaker 1 20 1:60\nlink 0 2 cable 1 90\n", 2,
			// First 10000 amperes, then 4000 over the cable.
			false, 100000 * 20, []guard.Event{{Millis: 20, Link: 0}},
		}, {
			"all of one time by increasing index",
			"plant 4\nsource 1 grid 1 0 30\nsource 2 grid 1 0 20\nsource 3 grid 1 0 10\nlink 3 0 breaker 1 30 10000:40\nlink 2 0 breaker 1 20 5000:60 8000:40\nlink 1 0 breaker 1 10 1:40\n", 0,
			true, 900000 * 40, []guard.Event{{Millis: 40, Link: 0}, {Millis: 40, Link: 1}, {Millis: 40, Link: 2}},
		}, {
			"due one millisecond after each other",
			"plant 3\nsource 1 grid 1 0 30\nsource 2 grid 1 0 30\nlink 1 0 breaker 1 10 1:41\nlink 2 0 breaker 1 10 1:40\n", 0,
			true, 400000*40 + 100000, []guard.Event{{Millis: 40, Link: 1}, {Millis: 41, Link: 0}},
		}, {
			"all on one way open together",
			"plant 4\nsource 3 grid 1 0 10\nlink 0 1 breaker 1 10 1:40\nlink 1 2 breaker 1 10 1:40\nlink 2 3 breaker 1 10 1:40\n", 0,
			true, 100000 * 40, []guard.Event{{Millis: 40, Link: 0}, {Millis: 40, Link: 1}, {Millis: 40, Link: 2}},
		}, {
			"neither cables nor switches open",
			"plant 3\nsource 0 grid 1 0 20\nlink 0 1 cable 1 10\nlink 1 2 switch 1 10\n", 2,
			false, 0, nil,
		}, {
			"no breaker trips with so small a current",
			"plant 2\nsource 0 grid 1 0 30\nlink 0 1 breaker 1 10 10001:1\n", 1,
			false, 0, nil,
		}, {
			"a breaker trips with just this current",
			"plant 2\nsource 0 grid 1 0 30\nlink 0 1 breaker 1 10 10000:1\n", 1,
			true, 100000, []guard.Event{{Millis: 1, Link: 0}},
		}, {
			"not cleared after an event",
			"plant 3\nsource 0 grid 1 0 20\nsource 2 grid 1 0 20\nlink 0 1 breaker 1 20 1:30\nlink 1 2 switch 1 20\n", 1,
			false, 400000 * 30, []guard.Event{{Millis: 30, Link: 0}},
		}, {
			"each round is rounded up by itself, before it is multiplied",
			"plant 2\nsource 0 grid 1 0 100000\nlink 0 1 breaker 1 10 1:7\nlink 0 1 breaker 1 20 1:5\n", 1,
			// 4 amperes: 16 thousandths become 1.
			true, 12, []guard.Event{{Millis: 7, Link: 0}, {Millis: 12, Link: 1}},
		}, {
			"the sum is squared, not each current",
			"plant 3\nsource 0 grid 1 0 99990\nsource 2 grid 1 0 3990\nlink 0 1 breaker 1 10 1:3\nlink 2 1 breaker 1 10 1:3\n", 1,
			// 4 and 100 amperes: 10816 thousandths become 11.
			true, 33, []guard.Event{{Millis: 3, Link: 0}, {Millis: 3, Link: 1}},
		},
	} {
		p, s := parsed(t, c.text)
		clears(t, c.name, p, s, c.bus, wants(s, c.cleared, c.energy, c.events...))
	}
}
