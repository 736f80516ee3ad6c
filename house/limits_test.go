package house_test

import (
	"slices"
	"testing"
	"time"

	"switchgear/api"
	"switchgear/bank"
	"switchgear/heat"
	"switchgear/house"
	"switchgear/meter"
	"switchgear/paths"
)

// greatest returns a setup in which all is as great as it may be.
func greatest() house.Setup {
	c := example()
	p := api.Plant{Buses: api.MaxBuses}
	for i := range api.MaxSources {
		p.Sources = append(p.Sources, api.Source{Bus: i, Kind: api.Grid, Power: 100000, Sync: 1, Ohm: 10})
	}
	for i := range api.MaxLinks {
		x := api.Link{A: i % 24, B: (i + 1 + i/24) % 24, Kind: api.Breaker, Most: 100000, Ohm: 10}
		for k := range api.MaxTrips {
			x.Trip = append(x.Trip, api.Trip{Amps: 1000 * (k + 1), Millis: 100000 - i - k})
		}
		p.Links = append(p.Links, x)
	}
	for i := range api.MaxRacks {
		p.Racks = append(p.Racks, api.Rack{Feeds: [2]int{i, (i + 1) % 24}, Power: 100000, Paths: 2})
	}
	c.Plant, c.State = p, start(p)
	for i := range paths.MaxTransfers {
		c.Transfers = append(c.Transfers, paths.Transfer{Watch: i, Open: i, Close: i + 1})
	}
	for i := range api.MaxRacks {
		c.Task.Fed, c.Task.Crew = append(c.Task.Fed, i), nil
		c.Disks = append(c.Disks, house.MaxDisks)
	}
	c.Disks = c.Disks[:24]
	c.Bank = bank.Bank{
		Batteries:  slices.Repeat([]bank.Battery{{Energy: bank.MaxEnergy, Full: bank.MaxEnergy, Power: bank.MaxPower, Charge: bank.MaxPower}}, 8),
		Generators: slices.Repeat([]bank.Generator{{Power: bank.MaxPower, Ramp: 1, Delay: 100, Pause: 10, Tries: 2}}, 6),
	}
	c.Fails = 12
	c.Hall = heat.Hall{}
	c.Class, c.Heat = heat.Class{}, nil
	for i := range heat.MaxRooms {
		c.Hall.Rooms = append(c.Hall.Rooms, heat.Room{Store: heat.MaxStore, Limit: heat.MaxKelvin})
		c.Class.Low.Load, c.Class.High.Load, c.Heat = append(c.Class.Low.Load, 0), append(c.Class.High.Load, heat.MaxLoad), append(c.Heat, 1000*i)
	}
	for i := range heat.MaxWalls {
		c.Hall.Walls = append(c.Hall.Walls, heat.Wall{A: i % 8, B: i%9 - 1, Pass: 1000})
		if c.Hall.Walls[i].A == c.Hall.Walls[i].B {
			c.Hall.Walls[i].B = -1
		}
		c.Hall.Branches = append(c.Hall.Branches, heat.Branch{Up: i - 1, Open: 100})
		c.Hall.Coolers = append(c.Hall.Coolers, heat.Cooler{Room: i % 8, Branch: i, Gain: 1000, Carry: 1000})
	}
	for i := range meter.MaxTiers {
		c.Tariff.Tiers = append(c.Tariff.Tiers, meter.Tier{Minutes: 1200 * i, Percent: 10 * i})
	}
	c.Tariff.Price, c.Tariff.Base, c.Tariff.Credit = slices.Repeat([]int{1000}, 24), meter.MaxValue, 100
	return c
}

// TestGreatest runs the greatest setup through 1000 orders and 168 hours, and asks for all that it has: all is quick.
func TestGreatest(t *testing.T) {
	c := greatest()
	begin := time.Now()
	var l []house.Order
	for i := range 1000 {
		switch {
		case i%6 == 0:
			l = append(l, hour)
		case i%2 == 0:
			l = append(l, fault(link(i%40)))
		default:
			l = append(l, mend(link((i-1)%40)))
		}
	}
	l = append(l[:999], hour)
	h, events, e := house.Run(c, l)
	if e != api.OK || len(events) != 1000 {
		t.Fatal(len(events), e)
	}
	m := newModel(c)
	for i, o := range l {
		if want := m.act(o); !same(events[i], want) {
			t.Fatalf("%d: %+v: %+v, not %+v", i, o, events[i], want)
		}
	}
	s := look(t, h)
	if !same(s, m.seen()) || len(s.rows) != 168 || len(s.chain) != 4032 || s.rows[0].Demand != 2400000 || s.rows[0].Served != 800000 {
		t.Error(len(s.rows), len(s.chain), s.rows[0])
	}
	if x, e := h.Ride(); x != (house.Ride{}) || e != api.ErrRange {
		t.Error(x, e)
	}
	findings, e := house.Commission(c, house.Claims{Two: true, Selective: true, Arc: 1, Ride: 4000})
	if e != api.OK || !slices.Equal(findings, against(c, house.Claims{Two: true, Selective: true, Arc: 1, Ride: 4000})) {
		t.Error(findings, e)
	}
	if x, e := house.Stranded(c); x.Power != 800000 || x.Usable != 800000 || e != api.OK {
		t.Error(x, e)
	}
	for i := range c.Plant.Racks {
		c.Plant.Racks[i].Power = 40000
	}
	if x, e := open(t, c).Ride(); x.Power != 4000 || x.Seconds != min(x.Power, x.Heat) || e != api.OK {
		t.Error(x, e)
	}
	if d := time.Since(begin); d > 30*time.Second {
		t.Error(d)
	}
}
