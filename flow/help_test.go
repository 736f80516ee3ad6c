package flow_test

import (
	"math/rand/v2"
	"slices"
	"testing"

	"switchgear/api"
	"switchgear/flow"
	"switchgear/plant"
)

// chapter returns the plant of the first example of layer 1, with racks of these powers at bus 1.
func chapter(racks ...int) api.Plant {
	p := api.Plant{
		Buses: 3,
		Sources: []api.Source{
			{Bus: 0, Kind: api.Grid, Power: 500, Ohm: 20},
			{Bus: 2, Kind: api.Generator, Power: 300, Ohm: 40},
		},
		Links: []api.Link{
			{A: 0, B: 1, Kind: api.Breaker, Most: 400, Ohm: 10, Trip: []api.Trip{{Amps: 1000, Millis: 400}, {Amps: 5000, Millis: 50}}},
			{A: 1, B: 2, Kind: api.Breaker, Most: 400, Ohm: 10},
		},
	}
	for _, power := range racks {
		p.Racks = append(p.Racks, api.Rack{Feeds: [2]int{1, -1}, Power: power, Paths: 1})
	}
	return p
}

// wired returns a plant with cables of 10 milliohms and 100 kilowatts between these buses, and one grid of 100 kilowatts at bus 0.
func wired(buses int, ends ...[2]int) api.Plant {
	p := api.Plant{Buses: buses, Sources: []api.Source{{Bus: 0, Kind: api.Grid, Power: 100, Ohm: 10}}}
	for _, x := range ends {
		p.Links = append(p.Links, api.Link{A: x[0], B: x[1], Kind: api.Cable, Most: 100, Ohm: 10})
	}
	return p
}

// start returns the state in which all sources are on and all links closed.
func start(t *testing.T, p api.Plant) api.State {
	t.Helper()
	s, e := plant.Initial(p)
	if e != api.OK {
		t.Fatal("Initial:", e)
	}
	for i := range s.On {
		s.On[i] = true
	}
	for i := range s.Closed {
		s.Closed[i] = true
	}
	return s
}

// lists returns the lists of a state, so that each can be changed in place.
func lists(s *api.State) []*[]bool {
	return []*[]bool{&s.Closed, &s.Locked, &s.BadLink, &s.On, &s.BadSource, &s.Earthed, &s.BadBus}
}

// copyState returns an equal state with memory of its own.
func copyState(s api.State) api.State {
	for _, l := range lists(&s) {
		*l = slices.Clone(*l)
	}
	return s
}

// sameState reports whether two states are equal.
func sameState(a, b api.State) bool {
	x, y := lists(&a), lists(&b)
	for i := range x {
		if !slices.Equal(*x[i], *y[i]) {
			return false
		}
	}
	return true
}

// copyServing returns an equal serving with memory of its own.
func copyServing(x flow.Serving) flow.Serving {
	return flow.Serving{Sources: slices.Clone(x.Sources), Links: slices.Clone(x.Links), Racks: slices.Clone(x.Racks)}
}

// zeroServing reports whether a serving is the zero value.
func zeroServing(x flow.Serving) bool {
	return len(x.Sources) == 0 && len(x.Links) == 0 && len(x.Racks) == 0
}

// sameShort reports whether two shorts are equal.
func sameShort(a, b flow.Short) bool {
	return a.Source == b.Source && a.Ohm == b.Ohm && a.Amps == b.Amps && slices.Equal(a.Links, b.Links)
}

// conducts reports whether a link conducts.
func conducts(p api.Plant, s api.State, link int) bool {
	x := p.Links[link]
	return s.Closed[link] && !s.BadLink[link] && !s.BadBus[x.A] && !s.BadBus[x.B]
}

// feeds reports whether a source feeds an island.
func feeds(p api.Plant, s api.State, source int) bool {
	return s.On[source] && !s.BadSource[source] && !s.BadBus[p.Sources[source].Bus]
}

// from returns a number from low to high.
func from(r *rand.Rand, low, high int) int { return low + r.IntN(high-low+1) }

// randomPlant returns a valid plant with that many buses, whose numbers are small, so that many are equal.
func randomPlant(r *rand.Rand, buses int) api.Plant {
	p := api.Plant{Buses: buses}
	for range from(r, 0, 4) {
		p.Sources = append(p.Sources, api.Source{Bus: r.IntN(buses), Kind: api.SourceKind(from(r, 1, 3)), Power: from(r, 1, 9), Sync: r.IntN(3), Ohm: from(r, 10, 13)})
	}
	if buses > 1 {
		for range r.IntN(min(api.MaxLinks, 3*buses) + 1) {
			a := r.IntN(buses)
			p.Links = append(p.Links, api.Link{A: a, B: (a + from(r, 1, buses-1)) % buses, Kind: api.LinkKind(from(r, 1, 3)), Most: from(r, 1, 6), Ohm: 10 * from(r, 1, 3)})
		}
	}
	for range r.IntN(6) {
		x := api.Rack{Feeds: [2]int{r.IntN(buses), -1}, Power: from(r, 1, 9)}
		if buses > 1 && r.IntN(2) == 0 {
			x.Feeds[1] = (x.Feeds[0] + from(r, 1, buses-1)) % buses
		}
		p.Racks = append(p.Racks, x)
	}
	return p
}

// randomState returns a valid state of a plant, in which most links are closed.
func randomState(r *rand.Rand, t *testing.T, p api.Plant) api.State {
	t.Helper()
	s := start(t, p)
	for i, x := range p.Links {
		if x.Kind != api.Cable {
			s.Closed[i], s.Locked[i] = r.IntN(6) > 0, r.IntN(4) == 0
		}
		s.BadLink[i] = r.IntN(10) == 0
	}
	for i := range p.Sources {
		s.On[i], s.BadSource[i] = r.IntN(6) > 0, r.IntN(10) == 0
	}
	for i := range p.Buses {
		s.Earthed[i], s.BadBus[i] = r.IntN(4) == 0, r.IntN(10) == 0
	}
	return s
}

// fullPlant returns a plant in which every number is at its limit and every list as long as it may be.
func fullPlant() api.Plant {
	p := api.Plant{Buses: api.MaxBuses}
	for i := range api.MaxSources {
		p.Sources = append(p.Sources, api.Source{Bus: 3 * i, Kind: api.Grid, Power: api.MaxPower, Ohm: api.MaxOhm})
	}
	for i := range api.MaxLinks {
		p.Links = append(p.Links, api.Link{A: i % 24, B: (i + 1 + i/24) % 24, Kind: api.Breaker, Most: api.MaxPower, Ohm: api.MaxOhm})
	}
	for i := range api.MaxRacks {
		p.Racks = append(p.Racks, api.Rack{Feeds: [2]int{i, (i + 11) % 24}, Power: api.MaxPower, Paths: 2})
	}
	return p
}
