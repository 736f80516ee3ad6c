package house_test

import (
	"math/rand/v2"

	"switchgear/api"
	"switchgear/bank"
	"switchgear/heat"
	"switchgear/house"
	"switchgear/meter"
	"switchgear/paths"
	"switchgear/plant"
)

// from returns a number from low to high.
func from(r *rand.Rand, low, high int) int { return low + r.IntN(high-low+1) }

// often reports true in so many of a hundred cases.
func often(r *rand.Rand, percent int) bool { return r.IntN(100) < percent }

// randomPlant returns a valid plant with few buses, so that failures often matter.
func randomPlant(r *rand.Rand) api.Plant {
	p := api.Plant{Buses: from(r, 2, 7)}
	for range from(r, 1, 4) {
		p.Sources = append(p.Sources, api.Source{Bus: r.IntN(p.Buses), Kind: api.SourceKind(from(r, 1, 3)), Power: from(r, 1, 400), Sync: []int{0, 1, 1, 1}[r.IntN(4)], Ohm: from(r, 10, 50)})
	}
	for range from(r, 1, 2*p.Buses) {
		a := r.IntN(p.Buses)
		x := api.Link{A: a, B: (a + from(r, 1, p.Buses-1)) % p.Buses, Kind: []api.LinkKind{api.Cable, api.Switch, api.Breaker, api.Breaker, api.Breaker}[r.IntN(5)], Most: from(r, 1, 300), Ohm: from(r, 10, 50)}
		if x.Kind == api.Breaker && often(r, 60) {
			x.Trip = []api.Trip{{Amps: from(r, 1, 9000), Millis: from(r, 60, 90)}, {Amps: from(r, 9001, 20000), Millis: from(r, 10, 59)}}
		}
		p.Links = append(p.Links, x)
	}
	for range from(r, 0, 5) {
		x := api.Rack{Feeds: [2]int{r.IntN(p.Buses), -1}, Power: from(r, 1, 200), Paths: r.IntN(2)}
		if often(r, 50) {
			x.Feeds[1] = (x.Feeds[0] + from(r, 1, p.Buses-1)) % p.Buses
			x.Paths = r.IntN(3)
		}
		p.Racks = append(p.Racks, x)
	}
	return p
}

// randomState returns a valid state in which most sources are on and most links closed, and few parts have failed.
func randomState(r *rand.Rand, p api.Plant) api.State {
	s := start(p)
	for i := range s.On {
		s.On[i], s.BadSource[i] = often(r, 80), often(r, 5)
	}
	for i, x := range p.Links {
		movable := x.Kind != api.Cable
		s.Closed[i], s.Locked[i], s.BadLink[i] = !movable || often(r, 55), movable && often(r, 10), often(r, 5)
	}
	for i := range s.BadBus {
		s.BadBus[i], s.Earthed[i] = often(r, 4), often(r, 6)
	}
	return s
}

// randomTransfers returns transfers of a plant.
func randomTransfers(r *rand.Rand, p api.Plant) []paths.Transfer {
	var movable []int
	for i, x := range p.Links {
		if x.Kind != api.Cable {
			movable = append(movable, i)
		}
	}
	var list []paths.Transfer
	for range from(r, 0, 4) {
		if len(movable) == 0 {
			break
		}
		x := paths.Transfer{Watch: r.IntN(p.Buses), Open: -1, Close: movable[r.IntN(len(movable))]}
		if other := movable[r.IntN(len(movable))]; other != x.Close {
			x.Open = other
		}
		list = append(list, x)
	}
	return list
}

// randomBank returns a bank whose Hold is quick.
func randomBank(r *rand.Rand) bank.Bank {
	var b bank.Bank
	for range from(r, 0, 2) {
		full := from(r, 0, 20000)
		b.Batteries = append(b.Batteries, bank.Battery{Energy: r.IntN(full + 1), Full: full, Power: from(r, 0, 500), Charge: from(r, 0, 30)})
	}
	for range from(r, 0, 2) {
		b.Generators = append(b.Generators, bank.Generator{Power: from(r, 0, 600), Ramp: from(r, 1, 50), Delay: from(r, 0, 20), Pause: from(r, 0, 9), Tries: from(r, 1, 3)})
	}
	return b
}

// randomHall sets a hall with a class and temperatures.
func randomHall(r *rand.Rand, c *house.Setup) {
	rooms := from(r, 1, 2)
	c.Hall = heat.Hall{Branches: []heat.Branch{{Up: -1, Open: 100}}}
	c.Class = heat.Class{Low: heat.Case{Out: from(r, 10000, 20000), Pump: from(r, 500, 1000)}, High: heat.Case{Out: from(r, 20000, 35000), Pump: from(r, 0, 500)}}
	c.Heat = nil
	for i := range rooms {
		c.Hall.Rooms = append(c.Hall.Rooms, heat.Room{Store: from(r, 500, 3000), Limit: from(r, 21900, 26000)})
		c.Hall.Walls = append(c.Hall.Walls, heat.Wall{A: i, B: -1, Pass: from(r, 0, 20)})
		c.Hall.Coolers = append(c.Hall.Coolers, heat.Cooler{Room: i, Gain: from(r, 0, 50), Carry: from(r, 0, 400), Supply: 18000})
		low := from(r, 0, 50000)
		c.Class.Low.Load = append(c.Class.Low.Load, low)
		c.Class.High.Load = append(c.Class.High.Load, low+from(r, 0, 100000))
		c.Heat = append(c.Heat, from(r, 20000, 22000))
	}
}

// randomSetup returns a setup that is right.
func randomSetup(r *rand.Rand) house.Setup {
	for {
		var c house.Setup
		c.Plant = randomPlant(r)
		c.State = randomState(r, c.Plant)
		c.Transfers = randomTransfers(r, c.Plant)
		for range from(r, 0, 2) {
			if len(c.Plant.Racks) > 0 {
				c.Task.Fed = append(c.Task.Fed, r.IntN(len(c.Plant.Racks)))
			}
		}
		if often(r, 10) {
			c.Task.Crew = []int{r.IntN(c.Plant.Buses)}
		}
		c.Bank, c.Fails = randomBank(r), from(r, 0, 3)
		randomHall(r, &c)
		for range 24 {
			c.Tariff.Price = append(c.Tariff.Price, r.IntN(100))
		}
		c.Tariff.Base, c.Tariff.Credit = r.IntN(10000), r.IntN(101)
		c.Tariff.Tiers = []meter.Tier{{Minutes: from(r, 0, 59), Percent: r.IntN(20)}, {Minutes: from(r, 60, 200), Percent: from(r, 20, 100)}}
		c.Key = r.Uint64()
		for range c.Plant.Racks {
			c.Disks = append(c.Disks, []int{0, 0, 1, 2, 100}[r.IntN(5)])
		}
		if house.Check(c) == api.OK {
			return c
		}
	}
}

// randomPart returns a part that is mostly one of a plant.
func randomPart(r *rand.Rand, p api.Plant) api.Part {
	if often(r, 8) {
		return api.Part{Kind: api.PartKind(from(r, -1, 5)), Index: from(r, -1, 15)}
	}
	l, _ := plant.Parts(p)
	return l[r.IntN(len(l))]
}

// randomOrder returns an order; what does not belong to it has any value.
func randomOrder(r *rand.Rand, c house.Setup) house.Order {
	o := house.Order{
		Kind:  []house.Kind{house.Fault, house.Mend, house.Mend, house.Switch, house.Switch, house.Hour, house.Hour, house.Hour, house.Destroy, house.Retire}[r.IntN(10)],
		Part:  randomPart(r, c.Plant),
		Step:  api.Step{Deed: api.Deed(from(r, 1, 8)), Index: r.IntN(7)},
		Rack:  from(r, 0, len(c.Plant.Racks)),
		Count: from(r, 0, 3),
	}
	switch {
	case often(r, 3):
		o.Kind = house.Kind(from(r, -1, 8))
	case often(r, 3):
		o.Rack = from(r, -2, 30)
	case often(r, 5):
		o.Count = 100
	}
	return o
}
