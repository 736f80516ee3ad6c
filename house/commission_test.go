package house_test

import (
	"math"
	"slices"
	"testing"

	"switchgear/api"
	"switchgear/bank"
	"switchgear/guard"
	"switchgear/house"
	"switchgear/paths"
)

// found checks what Commission finds.
func found(t *testing.T, name string, c house.Setup, l house.Claims, want ...house.Finding) {
	t.Helper()
	if x, e := house.Commission(c, l); !slices.Equal(x, want) || e != api.OK {
		t.Error(name, x, e, "not", want)
	}
}

// TestTwo has the chapter's third example, transfers that keep a promise, and racks that are not fed at all.
func TestTwo(t *testing.T) {
	two := house.Claims{Two: true}
	found(t, "the chapter's", example(), two)
	open := with(example(), func(c *house.Setup) { c.State.Closed[1] = false })
	found(t, "the second breaker is open", open, two,
		house.Finding{Claim: 1, Part: bus(0)}, house.Finding{Claim: 1, Part: bus(2)},
		house.Finding{Claim: 1, Part: source(0)}, house.Finding{Claim: 1, Part: link(0)})
	dark := with(open, func(c *house.Setup) { c.State.Closed[0] = false })
	found(t, "both are open", dark, two, house.Finding{Claim: 1})

	// The settled state counts: a transfer gives the dark bus the other grid, on which all hangs then.
	settled := with(site(), func(c *house.Setup) { c.State.BadSource[1] = true })
	now, _, _ := paths.Settle(settled.Plant, settled.State, settled.Transfers)
	breaches, _ := paths.Promise(settled.Plant, now, settled.Transfers)
	var want []house.Finding
	for _, x := range breaches {
		want = append(want, house.Finding{Claim: 1, Rack: x.Rack, Part: x.Part})
	}
	if len(want) != 4 {
		t.Error(want)
	}
	found(t, "settled", settled, two, want...)
	found(t, "the yard's", site(), two)
	// Of two racks, the one with one path is dark: that is a breach without a part.
	one := with(site(), func(c *house.Setup) { c.State.BadBus[4] = true })
	found(t, "one path", one, two, house.Finding{Claim: 1, Rack: 1})
}

// TestSelective has buses whose faults are cleared by the nearest breakers, by others, and not at all.
func TestSelective(t *testing.T) {
	c := setup("plant 4\nsource 0 grid 500 0 20\nlink 0 1 breaker 400 10 1000:400 10000:100\nlink 1 2 breaker 400 10 1000:50\nlink 1 3 breaker 400 10\nrack 2 3 100 1\n", nil, 0)
	found(t, "selective", c, house.Claims{Selective: true}, house.Finding{Claim: 2, Part: bus(0)}, house.Finding{Claim: 2, Part: bus(3)})
	found(t, "the grid is off", with(c, func(c *house.Setup) { c.State.On[0] = false }), house.Claims{Selective: true})
	found(t, "a breaker is open", with(c, func(c *house.Setup) { c.State.Closed[2] = false }), house.Claims{Selective: true}, house.Finding{Claim: 2, Part: bus(0)})
	// The settled state counts, too.
	c = with(c, func(c *house.Setup) {
		c.State.Closed[2] = false
		c.Transfers = []paths.Transfer{{Watch: 3, Open: -1, Close: 2}}
	})
	found(t, "settled", c, house.Claims{Selective: true}, house.Finding{Claim: 2, Part: bus(0)}, house.Finding{Claim: 2, Part: bus(3)})
}

// TestArc has the energies that are reached, and one less.
func TestArc(t *testing.T) {
	c := setup("plant 3\nsource 0 grid 500 0 20\nlink 0 1 breaker 400 10 1000:400 10000:100\nlink 1 2 breaker 400 10 1000:50\n", nil)
	x, _ := guard.Clear(c.Plant, c.State, 1)
	y, _ := guard.Clear(c.Plant, c.State, 2)
	if x.Energy <= y.Energy || y.Energy != 5000000 {
		t.Fatal(x, y)
	}
	first, second := house.Finding{Claim: 3, Part: bus(1), Value: x.Energy}, house.Finding{Claim: 3, Part: bus(2), Value: y.Energy}
	for arc, want := range map[int][]house.Finding{
		1: {first, second}, y.Energy - 1: {first, second}, y.Energy: {first}, x.Energy - 1: {first}, x.Energy: nil, math.MaxInt: nil,
		0: nil, -1: nil, math.MinInt: nil,
	} {
		found(t, "arcs", c, house.Claims{Arc: arc}, want...)
	}
	// A fault that is not cleared has the energy until the last breaker has opened.
	c = with(c, func(c *house.Setup) {
		c.Plant.Sources = append(c.Plant.Sources, api.Source{Bus: 1, Kind: api.Grid, Power: 5, Ohm: 10000})
		c.State.On, c.State.BadSource = []bool{true, false}, []bool{false, false}
		c.Plant.Sources[0].Sync, c.Plant.Sources[1].Sync = 1, 1
		c.Plant.Links[1].Trip = nil
		c.State.On[1] = true
	})
	z, _ := guard.Clear(c.Plant, c.State, 2)
	if z.Cleared || z.Energy == 0 {
		t.Fatal(z)
	}
	l, e := house.Commission(c, house.Claims{Arc: z.Energy - 1})
	if !slices.Contains(l, house.Finding{Claim: 3, Part: bus(2), Value: z.Energy}) || e != api.OK {
		t.Error(l, e)
	}
}

// TestRideClaim has the seconds that are reached, and one more, and a Ride with an error.
func TestRideClaim(t *testing.T) {
	for ride, want := range map[int][]house.Finding{
		math.MinInt: nil, -1: nil, 0: nil, 1: nil, 10: nil,
		11: {{Claim: 4, Value: 10}}, 4000: {{Claim: 4, Value: 10}}, math.MaxInt: {{Claim: 4, Value: 10}},
	} {
		found(t, "ride", example(), house.Claims{Ride: ride}, want...)
	}
	hot := with(example(), func(c *house.Setup) { c.Heat[0] = 22501 })
	found(t, "too hot", hot, house.Claims{Ride: 1}, house.Finding{Claim: 4})
	many := with(example(), func(c *house.Setup) { c.Bank.Generators = slices.Repeat([]bank.Generator{{Tries: 5}}, 4) })
	found(t, "an error", many, house.Claims{Ride: 1}, house.Finding{Claim: 4})
	for _, ride := range []int{0, -1} {
		found(t, "an error, no claim", many, house.Claims{Ride: ride})
	}
	// What is dark until the state is settled is a load.
	dark := with(example(), func(c *house.Setup) {
		c.Plant.Racks[0] = api.Rack{Feeds: [2]int{3, -1}, Power: 100, Paths: 1}
		c.State.On[1] = false
		c.Transfers = []paths.Transfer{{Watch: 3, Open: 1, Close: 2}}
	})
	found(t, "settled", dark, house.Claims{Ride: 11}, house.Finding{Claim: 4, Value: 10})
}

// TestClaims has no claims, and all of them: claim by claim.
func TestClaims(t *testing.T) {
	c := with(example(), func(c *house.Setup) {
		c.State.Closed[1] = false
		for i := range c.Plant.Links {
			c.Plant.Links[i].Trip = []api.Trip{{Amps: 100, Millis: 20}}
		}
	})
	found(t, "none", c, house.Claims{})
	// At bus 1 only its grid feeds, and no breaker can open; the energy counts until the last one has opened: 0.
	want := []house.Finding{
		{Claim: 1, Part: bus(0)}, {Claim: 1, Part: bus(2)}, {Claim: 1, Part: source(0)}, {Claim: 1, Part: link(0)},
		{Claim: 2, Part: bus(0)}, {Claim: 2, Part: bus(1)},
		{Claim: 3, Part: bus(2), Value: 3555920},
		{Claim: 4, Value: 10},
	}
	found(t, "all", c, house.Claims{Two: true, Selective: true, Arc: 3555919, Ride: 11}, want...)
	found(t, "all but the arcs", c, house.Claims{Two: true, Selective: true, Arc: 3555920, Ride: 11}, append(slices.Clone(want[:6]), want[7])...)
	found(t, "two of them", c, house.Claims{Selective: true, Ride: 11}, append(slices.Clone(want[4:6]), want[7])...)
}

// stranded checks what capacity is stranded.
func stranded(t *testing.T, name string, c house.Setup, want house.Strand) {
	t.Helper()
	if x, e := house.Stranded(c); !same(x, want) || e != api.OK {
		t.Error(name, x, e, "not", want)
	}
}

// TestStranded has sources that are off, bad, or at a bus that has failed, and racks that draw all that they can get.
func TestStranded(t *testing.T) {
	stranded(t, "the yard", site(), house.Strand{Power: 1000, Usable: 800, Tight: []api.Part{link(0), link(1)}})
	for _, x := range []struct {
		name   string
		change func(c *house.Setup)
		want   house.Strand
	}{
		{"a grid is off", func(c *house.Setup) { c.State.On[1] = false }, house.Strand{Power: 500, Usable: 400, Tight: []api.Part{link(0)}}},
		{"a grid is bad", func(c *house.Setup) { c.State.BadSource[0] = true }, house.Strand{Power: 500, Usable: 400, Tight: []api.Part{link(1)}}},
		{"a grid's bus is bad", func(c *house.Setup) { c.State.BadBus[0] = true }, house.Strand{Power: 500, Usable: 400, Tight: []api.Part{link(1)}}},
		{"a bus of racks is bad", func(c *house.Setup) { c.State.BadBus[2] = true }, house.Strand{Power: 1000, Usable: 400, Tight: []api.Part{link(1)}}},
		{"the generator is on", func(c *house.Setup) { c.State.On[2] = true }, house.Strand{Power: 1300, Usable: 800, Tight: []api.Part{link(0), link(1)}}},
		{"weak grids", func(c *house.Setup) { c.Plant.Sources[0].Power, c.Plant.Sources[1].Power = 300, 350 }, house.Strand{Power: 650, Usable: 650, Tight: []api.Part{source(0), source(1)}}},
		{"all is off", func(c *house.Setup) { clear(c.State.On) }, house.Strand{}},
		{"no rack", func(c *house.Setup) { c.Plant.Racks, c.Disks = nil, nil }, house.Strand{Power: 1000}},
		{"only racks at the cable", func(c *house.Setup) { c.Plant.Racks, c.Disks = c.Plant.Racks[1:3], c.Disks[1:3] }, house.Strand{Power: 1000, Usable: 200, Tight: []api.Part{link(3)}}},
	} {
		stranded(t, x.name, with(site(), x.change), x.want)
	}
	// A single rack draws no more than MaxPower.
	great := setup("plant 1\nsource 0 grid 100000 0 20\nsource 0 grid 100000 0 20\nrack 0 -1 1 1\n", nil, 0)
	great.Plant.Sources[0].Sync, great.Plant.Sources[1].Sync = 1, 1
	stranded(t, "a great grid", great, house.Strand{Power: 200000, Usable: 100000})
}
