package guard_test

import (
	"slices"
	"testing"

	"switchgear/api"
	"switchgear/guard"
)

// parallel returns a plant with sources of the least resistance at bus 1, some at bus 0, and 40 breakers between them, which trip with any current after the greatest delay.
func parallel(at1, at0 int) api.Plant {
	p := api.Plant{Buses: 2}
	p.Sources = slices.Repeat([]api.Source{{Bus: 1, Kind: api.Grid, Power: api.MaxPower, Ohm: api.MinOhm}}, at1)
	for range at0 {
		p.Sources = append(p.Sources, api.Source{Bus: 0, Kind: api.Battery, Power: 1, Ohm: api.MinOhm})
	}
	p.Links = slices.Repeat([]api.Link{{A: 0, B: 1, Kind: api.Breaker, Most: api.MaxPower, Ohm: api.MinOhm, Trip: []api.Trip{{Amps: 1, Millis: api.MaxMillis}}}}, api.MaxLinks)
	return p
}

// inTurn returns the events of breakers that open one after the other: the short way takes the first one of equal breakers.
func inTurn(count int) []guard.Event {
	var events []guard.Event
	for i := range count {
		events = append(events, guard.Event{Millis: (i + 1) * api.MaxMillis, Link: i})
	}
	return events
}

func TestClearAtLimits(t *testing.T) {
	p := parallel(8, 0)
	s := start(t, p)
	// 160000 amperes for 4000000 milliseconds.
	clears(t, "cleared by all breakers", p, s, 0, wants(s, true, 25600000*4000000, inTurn(40)...))
	p = parallel(1, 7)
	s = start(t, p)
	clears(t, "not cleared, with more amperes", p, s, 0, wants(s, false, 90000000*4000000, inTurn(40)...))
	p = parallel(0, 8)
	clears(t, "the most amperes, without a breaker", p, s, 0, wants(s, false, 0))
	p.Links[0].Trip = []api.Trip{{Amps: 1, Millis: 1}}
	events := inTurn(40)
	for i := range events {
		events[i].Millis -= api.MaxMillis - 1
	}
	clears(t, "the first breaker at once", p, s, 1, wants(s, true, 25600000+25600000*3900000, events...))
}

// TestTripsAtLimits has trips of 1 and of MaxAmps amperes, and 6 of them.
func TestTripsAtLimits(t *testing.T) {
	p := api.Plant{Buses: 2, Sources: slices.Repeat([]api.Source{{Bus: 1, Kind: api.Grid, Power: 1, Ohm: api.MaxOhm}}, 8)}
	p.Links = []api.Link{{A: 1, B: 0, Kind: api.Breaker, Most: 1, Ohm: api.MaxOhm, Trip: []api.Trip{{Amps: api.MaxAmps, Millis: 1}}}}
	s := start(t, p)
	// Each source has 2 amperes.
	clears(t, "never", p, s, 0, wants(s, false, 0))
	p.Links[0].Trip = []api.Trip{{Amps: 1, Millis: 100000}, {Amps: 15, Millis: 99999}, {Amps: 16, Millis: 300}, {Amps: 17, Millis: 200}, {Amps: 18, Millis: 100}, {Amps: 1000000, Millis: 1}}
	clears(t, "the third one of six", p, s, 0, wants(s, true, 300, guard.Event{Millis: 300, Link: 0}))
}

// TestGreatPlantIsQuick surveys a plant with all parts that a plant may have, whose breakers open one after the other.
func TestGreatPlantIsQuick(t *testing.T) {
	p := api.Plant{Buses: api.MaxBuses}
	for i := range api.MaxSources {
		p.Sources = append(p.Sources, api.Source{Bus: 3 * i, Kind: api.Grid, Power: api.MaxPower, Ohm: api.MaxOhm})
	}
	for i := range api.MaxLinks {
		p.Links = append(p.Links, api.Link{A: i % 24, B: (i + 1 + i/24) % 24, Kind: api.Breaker, Most: api.MaxPower, Ohm: api.MaxOhm, Trip: []api.Trip{{Amps: 1, Millis: api.MaxMillis - 1000*i}}})
	}
	for i := range api.MaxRacks {
		p.Racks = append(p.Racks, api.Rack{Feeds: [2]int{i, (i + 11) % 24}, Power: api.MaxPower, Paths: 2})
	}
	s := start(t, p)
	l, e := guard.Survey(p, s)
	if len(l) != api.MaxBuses || e != api.OK {
		t.Fatal(len(l), e)
	}
	for bus, x := range l {
		// A source's own bus keeps its current.
		if x.Cleared != (bus%3 != 0) || len(x.Events) < 3 {
			t.Errorf("bus %d: %+v", bus, x)
		}
	}
	if _, _, e := guard.Worst(p, s); e != api.OK {
		t.Error(e)
	}
}
