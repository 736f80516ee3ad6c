package guard_test

import (
	"math/rand/v2"
	"slices"
	"testing"

	"switchgear/api"
	"switchgear/guard"
	"switchgear/plant"
)

// chapter is the plant of the first example, with a rack at each bus, the last of which has a second feed.
const chapter = `plant 3
source 0 grid 500 0 20
link 0 1 breaker 400 10 1000:400 10000:100
link 1 2 breaker 400 10 1000:50
rack 0 -1 10 1
rack 1 -1 10 1
rack 2 0 10 1
`

// parsed returns the plant of a text, and the state in which all sources are on and all links closed.
func parsed(t *testing.T, text string) (api.Plant, api.State) {
	t.Helper()
	p, line, e := plant.Parse(text)
	if e != api.OK {
		t.Fatal("Parse:", line, e)
	}
	return p, start(t, p)
}

// start returns the state in which all sources are on and all links closed.
func start(t *testing.T, p api.Plant) api.State {
	t.Helper()
	s, e := plant.Initial(p)
	if e != api.OK {
		t.Fatal("Initial:", e)
	}
	for _, l := range [][]bool{s.On, s.Closed} {
		for i := range l {
			l[i] = true
		}
	}
	return s
}

// lists returns the lists of a state, so that each can be changed in place.
func lists(s *api.State) []*[]bool {
	return []*[]bool{&s.Closed, &s.Locked, &s.BadLink, &s.On, &s.BadSource, &s.Earthed, &s.BadBus}
}

// copyState returns an equal state with memory of its own.
func copyState(s api.State) api.State {
	for _, l := range lists(&s) {
		*l = slices.Clone(*l)
	}
	return s
}

// opened returns the state in which these links are open.
func opened(s api.State, links ...int) api.State {
	s = copyState(s)
	for _, i := range links {
		s.Closed[i] = false
	}
	return s
}

// sameState reports whether two states are equal.
func sameState(a, b api.State) bool {
	x, y := lists(&a), lists(&b)
	for i := range x {
		if !slices.Equal(*x[i], *y[i]) {
			return false
		}
	}
	return true
}

// same reports whether two clearings are equal.
func same(a, b guard.Clearing) bool {
	return slices.Equal(a.Events, b.Events) && a.Cleared == b.Cleared && a.Millis == b.Millis && a.Energy == b.Energy && sameState(a.State, b.State)
}

// zero reports whether a clearing is the zero value.
func zero(x guard.Clearing) bool { return same(x, guard.Clearing{}) }

// from returns a number from low to high.
func from(r *rand.Rand, low, high int) int { return low + r.IntN(high-low+1) }

// randomPlant returns a valid plant, most of whose links are breakers. Its numbers are few, so that many currents and times are equal.
func randomPlant(r *rand.Rand) api.Plant {
	p := api.Plant{Buses: from(r, 1, 7)}
	for range from(r, 0, 4) {
		p.Sources = append(p.Sources, api.Source{Bus: r.IntN(p.Buses), Kind: api.Grid, Power: 1, Ohm: 10 * from(r, 1, 3)})
	}
	for range r.IntN(2 * p.Buses) {
		if p.Buses == 1 {
			break
		}
		a := r.IntN(p.Buses)
		x := api.Link{A: a, B: (a + from(r, 1, p.Buses-1)) % p.Buses, Kind: api.Breaker, Most: 1, Ohm: 10 * from(r, 1, 3)}
		if r.IntN(8) == 0 {
			x.Kind = api.LinkKind(from(r, 1, 2))
		} else {
			x.Trip = randomTrips(r)
		}
		p.Links = append(p.Links, x)
	}
	for range r.IntN(5) {
		x := api.Rack{Feeds: [2]int{r.IntN(p.Buses), -1}, Power: 1}
		if p.Buses > 1 && r.IntN(2) == 0 {
			x.Feeds[1] = (x.Feeds[0] + 1) % p.Buses
		}
		p.Racks = append(p.Racks, x)
	}
	return p
}

// randomTrips returns the trips of a breaker: their Amps are near to the currents of random plants.
func randomTrips(r *rand.Rand) []api.Trip {
	var trips []api.Trip
	// Many times are equal in one half of the breakers, and near to each other in the other half.
	unit := from(r, 1, 2)*3 - 2
	millis := unit * from(r, 1, 6)
	for _, amps := range []int{1, 8000, 13334, 13335, 20000, 33334} {
		if r.IntN(2) == 0 && millis > 0 {
			trips = append(trips, api.Trip{Amps: amps, Millis: millis})
			millis -= unit * from(r, 1, 2)
		}
	}
	return trips
}

// randomState returns a valid state of a plant, in which most links are closed.
func randomState(r *rand.Rand, t *testing.T, p api.Plant) api.State {
	t.Helper()
	s := start(t, p)
	for i, x := range p.Links {
		if x.Kind != api.Cable {
			s.Closed[i], s.Locked[i] = r.IntN(8) > 0, r.IntN(3) == 0
		}
		s.BadLink[i] = r.IntN(12) == 0
	}
	for i := range p.Sources {
		s.On[i], s.BadSource[i] = r.IntN(8) > 0, r.IntN(12) == 0
	}
	for i := range p.Buses {
		s.Earthed[i], s.BadBus[i] = r.IntN(3) == 0, r.IntN(12) == 0
	}
	return s
}
