package work_test

import (
	"slices"
	"testing"

	"switchgear/api"
	"switchgear/paths"
	"switchgear/work"
)

// great returns a yard with all that a yard may have: a ring of all buses, and links across it, 16 transfers, 5 jobs with 8 parts.
func great() work.Yard {
	p := api.Plant{Buses: api.MaxBuses}
	for i := range api.MaxSources {
		p.Sources = append(p.Sources, api.Source{Bus: 3 * i, Kind: api.Grid, Power: api.MaxPower, Sync: 1, Ohm: api.MaxOhm})
	}
	for i := range api.MaxLinks {
		p.Links = append(p.Links, api.Link{A: i % 24, B: (i + 1 + i/24) % 24, Kind: api.Breaker, Most: api.MaxPower, Ohm: api.MaxOhm})
	}
	for i := range api.MaxRacks {
		p.Racks = append(p.Racks, api.Rack{Feeds: [2]int{i, (i + 11) % 24}, Power: api.MaxPower, Paths: 2})
	}
	y := work.Yard{Plant: p, State: start(p), People: 1000, Redundant: true}
	for i := range paths.MaxTransfers {
		y.Transfers = append(y.Transfers, paths.Transfer{Watch: i + 1, Open: -1, Close: i + 1})
	}
	for i := range work.MaxJobs {
		x := crew(job(i+6), 20)
		for k := range 8 {
			x.Parts = append(x.Parts, link(i+5*k))
		}
		y.Jobs = append(y.Jobs, x)
	}
	return y
}

func TestGreatYardIsQuick(t *testing.T) {
	y := great()
	pairs, e := work.Why(y)
	if len(pairs) == 0 || e != api.OK {
		t.Error(pairs, e)
	}
	l, e := work.Plan(y)
	if len(l) != 5 || e != api.OK {
		t.Error(l, e)
	}
	spare, e := work.Spare(y, l)
	if len(spare) == 0 || e != api.OK {
		t.Error(spare, e)
	}
	// Transfers act one after the other: of the ring only an arc is closed, and of the sources one is on.
	for i := range y.State.Closed {
		y.State.Closed[i] = i >= 17 && i < 24
	}
	clear(y.State.On[1:])
	for i := range y.Plant.Racks {
		y.Plant.Racks[i].Paths = 0
	}
	if l, e := work.Plan(y); !slices.Equal(l, make([]int, 5)) || e != api.OK {
		t.Error(l, e)
	}
}

// TestLongDays has long windows in which few plans are right, or none.
func TestLongDays(t *testing.T) {
	plans(t, "one after the other", alone(job(9), job(10), job(8), job(11), job(10)), 48, 0, 9, 19, 27, 38)
	never(t, "an hour too much", alone(job(9), job(10), job(8), job(11), job(11)))
	never(t, "short ones beside a long one", alone(job(1), job(1), job(1), job(1), job(48)))
	plans(t, "short ones beside a long one, an hour shorter", alone(job(1), job(1), job(1), job(1), job(44)), 48, 0, 1, 2, 3, 4)
	never(t, "two long ones", alone(job(1), job(1), job(1), job(30), job(30)))
	plans(t, "a window in the middle", alone(job(20), job(1), job(1), job(20), within(job(5), 21, 26)), 47, 0, 20, 26, 27, 21)
	y := free(crew(job(1), 1), crew(job(2), 2), crew(job(4), 4), crew(job(8), 8), crew(job(16), 16))
	y.People = 16
	plans(t, "four beside each other, and one alone", y, 24, 0, 0, 0, 0, 8)
}
