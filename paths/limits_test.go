package paths_test

import (
	"testing"

	"switchgear/api"
	"switchgear/paths"
)

// great returns a plant with all parts that a plant may have: a ring of all buses, and links across it; and a state of it.
func great(t *testing.T) (api.Plant, api.State) {
	t.Helper()
	p := api.Plant{Buses: api.MaxBuses}
	for i := range api.MaxSources {
		p.Sources = append(p.Sources, api.Source{Bus: 3 * i, Kind: api.Grid, Power: api.MaxPower, Sync: 1, Ohm: api.MaxOhm})
	}
	for i := range api.MaxLinks {
		p.Links = append(p.Links, api.Link{A: i % 24, B: (i + 1 + i/24) % 24, Kind: api.Breaker, Most: api.MaxPower, Ohm: api.MaxOhm})
	}
	for i := range api.MaxRacks {
		p.Racks = append(p.Racks, api.Rack{Feeds: [2]int{i, (i + 11) % 24}, Power: api.MaxPower, Paths: 2})
	}
	return p, start(t, p)
}

func TestGreatPlantIsQuick(t *testing.T) {
	p, s := great(t)
	for rack := range p.Racks {
		l, e := paths.Ways(p, s, rack)
		if len(l) != 2 || e != api.OK || paths.CheckWays(p, s, rack, l) != api.OK {
			t.Error(rack, l, e)
		}
		hangsOn(t, "great", p, s, rack)
	}
	breaches(t, "great", p, s, nil)
	// Of the ring only an arc is left; transfers make the other buses live, one after the other, from the last one on.
	var l []paths.Transfer
	for i := range s.Closed {
		s.Closed[i] = i >= 17 && i < 24
	}
	clear(s.On[1:])
	for i := range paths.MaxTransfers {
		l = append(l, paths.Transfer{Watch: i + 1, Open: -1, Close: i + 1})
	}
	_, order, e := paths.Settle(p, s, l)
	if len(order) != paths.MaxTransfers || order[0] != 15 || e != api.OK {
		t.Error(order, e)
	}
	list, e := paths.Weak(p, s, l, true)
	if len(list) == 0 || e != api.OK {
		t.Error(len(list), e)
	}
}

// TestLongestWay goes through all buses.
func TestLongestWay(t *testing.T) {
	p, s := chain(t, api.MaxBuses)
	for i := range s.Closed {
		s.Closed[i] = true
	}
	p.Racks = []api.Rack{{Feeds: [2]int{api.MaxBuses - 1, -1}, Power: 1, Paths: 1}}
	want := []api.Part{source(0), bus(0)}
	for i := range p.Links {
		want = append(want, link(i), bus(i+1))
	}
	l, e := paths.Ways(p, s, 0)
	if !sameLists(l, [][]api.Part{want}) || e != api.OK {
		t.Error(l, e)
	}
	if e := paths.CheckWays(p, s, 0, [][]api.Part{want}); e != api.OK {
		t.Error(e)
	}
	if l, e := paths.Critical(p, s, 0); len(l) != len(want) || e != api.OK {
		t.Error(l, e)
	}
}
