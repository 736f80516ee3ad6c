package plant_test

import (
	"math/rand/v2"
	"slices"
	"testing"

	"switchgear/api"
	"switchgear/plant"
)

// chapter returns the plant of the chapter's examples.
func chapter() api.Plant {
	return api.Plant{
		Buses: 3,
		Sources: []api.Source{
			{Bus: 0, Kind: api.Grid, Power: 500, Ohm: 20},
			{Bus: 2, Kind: api.Generator, Power: 300, Ohm: 40},
		},
		Links: []api.Link{
			{A: 0, B: 1, Kind: api.Breaker, Most: 400, Ohm: 10, Trip: []api.Trip{{Amps: 1000, Millis: 400}, {Amps: 5000, Millis: 50}}},
			{A: 1, B: 2, Kind: api.Breaker, Most: 400, Ohm: 10},
		},
		Racks: []api.Rack{{Feeds: [2]int{1, -1}, Power: 100, Paths: 1}},
	}
}

// mixed returns a plant with links and sources of all kinds, and racks with one and two feeds.
func mixed() api.Plant {
	return api.Plant{
		Buses: 5,
		Sources: []api.Source{
			{Bus: 0, Kind: api.Grid, Power: 500, Sync: 1, Ohm: 20},
			{Bus: 3, Kind: api.Generator, Power: 300, Sync: 1, Ohm: 40},
			{Bus: 4, Kind: api.Battery, Power: 50, Sync: 2, Ohm: 100},
		},
		Links: []api.Link{
			{A: 0, B: 1, Kind: api.Cable, Most: 400, Ohm: 10},
			{A: 1, B: 2, Kind: api.Switch, Most: 300, Ohm: 11},
			{A: 2, B: 3, Kind: api.Breaker, Most: 200, Ohm: 12, Trip: []api.Trip{{Amps: 100, Millis: 20}}},
			{A: 4, B: 3, Kind: api.Breaker, Most: 100, Ohm: 13},
		},
		Racks: []api.Rack{
			{Feeds: [2]int{1, 3}, Power: 100, Paths: 2},
			{Feeds: [2]int{4, -1}, Power: 20},
		},
	}
}

// start returns the initial state with all sources on and the links in closed closed.
func start(t *testing.T, p api.Plant, closed ...int) api.State {
	t.Helper()
	s, e := plant.Initial(p)
	if e != api.OK {
		t.Fatal("Initial:", e)
	}
	for i := range s.On {
		s.On[i] = true
	}
	for _, i := range closed {
		s.Closed[i] = true
	}
	return s
}

// lists returns the lists of a state, so that each can be changed in place.
func lists(s *api.State) []*[]bool {
	return []*[]bool{&s.Closed, &s.Locked, &s.BadLink, &s.On, &s.BadSource, &s.Earthed, &s.BadBus}
}

// copyState returns an equal state with memory of its own.
func copyState(s api.State) api.State {
	for _, l := range lists(&s) {
		*l = slices.Clone(*l)
	}
	return s
}

// sameState reports whether two states are equal.
func sameState(a, b api.State) bool {
	x, y := lists(&a), lists(&b)
	for i := range x {
		if !slices.Equal(*x[i], *y[i]) {
			return false
		}
	}
	return true
}

// zeroState reports whether a state is the zero value.
func zeroState(s api.State) bool { return sameState(s, api.State{}) }

// samePlant reports whether two plants are equal; nil and empty lists are.
func samePlant(a, b api.Plant) bool {
	sameLink := func(x, y api.Link) bool {
		return x.A == y.A && x.B == y.B && x.Kind == y.Kind && x.Most == y.Most && x.Ohm == y.Ohm && slices.Equal(x.Trip, y.Trip)
	}
	return a.Buses == b.Buses && slices.Equal(a.Sources, b.Sources) && slices.EqualFunc(a.Links, b.Links, sameLink) && slices.Equal(a.Racks, b.Racks)
}

// sameIslands reports whether two lists of islands are equal.
func sameIslands(a, b []plant.Island) bool {
	return slices.EqualFunc(a, b, func(x, y plant.Island) bool {
		return slices.Equal(x.Buses, y.Buses) && slices.Equal(x.Sources, y.Sources)
	})
}

// from returns a number from low to high.
func from(r *rand.Rand, low, high int) int { return low + r.IntN(high-low+1) }

// randomPlant returns a valid plant with at most so many buses.
func randomPlant(r *rand.Rand, buses int) api.Plant {
	p := api.Plant{Buses: from(r, 2, buses)}
	for range r.IntN(api.MaxSources + 1) {
		p.Sources = append(p.Sources, api.Source{Bus: r.IntN(p.Buses), Kind: api.SourceKind(from(r, 1, 3)), Power: from(r, 1, api.MaxPower), Sync: r.IntN(3), Ohm: from(r, api.MinOhm, api.MaxOhm)})
	}
	for range r.IntN(min(api.MaxLinks, 2*p.Buses) + 1) {
		a := r.IntN(p.Buses)
		x := api.Link{A: a, B: (a + from(r, 1, p.Buses-1)) % p.Buses, Kind: api.LinkKind(from(r, 1, 3)), Most: from(r, 1, api.MaxPower), Ohm: from(r, api.MinOhm, api.MaxOhm)}
		if x.Kind == api.Breaker {
			x.Trip = randomTrips(r)
		}
		p.Links = append(p.Links, x)
	}
	for range r.IntN(api.MaxRacks + 1) {
		x := api.Rack{Feeds: [2]int{r.IntN(p.Buses), -1}, Power: from(r, 1, api.MaxPower), Paths: r.IntN(2)}
		if r.IntN(2) == 0 {
			x.Feeds[1], x.Paths = (x.Feeds[0]+from(r, 1, p.Buses-1))%p.Buses, r.IntN(3)
		}
		p.Racks = append(p.Racks, x)
	}
	return p
}

// randomTrips returns trips that a breaker may have.
func randomTrips(r *rand.Rand) []api.Trip {
	var list []api.Trip
	amps, millis := 0, api.MaxMillis+1
	for range r.IntN(api.MaxTrips + 1) {
		amps += from(r, 1, 1000)
		millis -= from(r, 1, 1000)
		list = append(list, api.Trip{Amps: amps, Millis: millis})
	}
	return list
}

// randomState returns a valid state of a plant.
func randomState(r *rand.Rand, t *testing.T, p api.Plant) api.State {
	t.Helper()
	s, e := plant.Initial(p)
	if e != api.OK {
		t.Fatal("Initial:", e)
	}
	for i, x := range p.Links {
		if x.Kind != api.Cable {
			s.Closed[i], s.Locked[i] = r.IntN(2) == 0, r.IntN(2) == 0
		}
		s.BadLink[i] = r.IntN(6) == 0
	}
	for i := range p.Sources {
		s.On[i], s.BadSource[i] = r.IntN(3) > 0, r.IntN(6) == 0
	}
	for i := range p.Buses {
		s.Earthed[i], s.BadBus[i] = r.IntN(2) == 0, r.IntN(6) == 0
	}
	return s
}
