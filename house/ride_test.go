package house_test

import (
	"math"
	"slices"
	"testing"

	"switchgear/api"
	"switchgear/bank"
	"switchgear/house"
)

// rides checks how long a house goes on.
func rides(t *testing.T, name string, h *house.House, want house.Ride) {
	t.Helper()
	if x, e := h.Ride(); x != want || e != api.OK {
		t.Error(name, x, e, "not", want)
	}
}

// TestRideExample has the chapter's last example, without fails and with more than there are generators.
func TestRideExample(t *testing.T) {
	for fails, power := range map[int]int{0: 4000, 1: 10, 2: 10, 3: 10, 100: 10, math.MaxInt: 10} {
		c := with(example(), func(c *house.Setup) { c.Fails = fails })
		rides(t, "fails", open(t, c), house.Ride{Seconds: min(power, 50), Power: power, Heat: 50})
	}
	// Of two generators one runs unless all four attempts fail; then the battery is all there is.
	c := with(example(), func(c *house.Setup) {
		c.Bank.Generators = slices.Repeat(c.Bank.Generators, 2)
		c.Bank.Batteries[0] = bank.Battery{Energy: 100000, Full: 100000, Power: 100}
	})
	for fails, power := range map[int]int{3: 4000, 4: 1000, 7: 1000} {
		c.Fails = fails
		h := open(t, c)
		rides(t, "two generators", h, house.Ride{Seconds: 50, Power: power, Heat: 50})
	}
}

// TestRideLoad has racks that are dark or retired: they are no load.
func TestRideLoad(t *testing.T) {
	c := with(site(), func(c *house.Setup) {
		c.Bank = bank.Bank{Batteries: []bank.Battery{{Energy: 12600, Full: 12600, Power: 1000}}}
		c.Hall.Rooms[0].Limit = 1000000
	})
	for _, x := range []struct {
		name   string
		orders []house.Order
		load   int
	}{
		{"all", nil, 250},
		{"one is retired", []house.Order{retire(3)}, 180},
		{"two are dark", []house.Order{fault(bus(4))}, 170},
		{"two are dark, one is retired", []house.Order{fault(bus(4)), retire(3)}, 100},
		{"one is dark and retired", []house.Order{fault(bus(2)), retire(3)}, 180},
		{"one lost a feed", []house.Order{fault(bus(3))}, 170},
		{"a transfer acts", []house.Order{fault(source(1))}, 250},
		{"an hour has passed", []house.Order{hour}, 250},
	} {
		power := 12600 / x.load
		rides(t, x.name, acted(t, c, x.orders...), house.Ride{Seconds: power, Power: power, Heat: 4000})
	}
	dark := acted(t, c, fault(source(0)), fault(source(1)))
	rides(t, "all are dark", dark, house.Ride{Seconds: 4000, Power: 4000, Heat: 4000})
	c.Bank = bank.Bank{}
	rides(t, "all are dark, no bank", acted(t, c, fault(source(0)), fault(source(1))), house.Ride{Seconds: 4000, Power: 4000, Heat: 4000})
	rides(t, "no bank", open(t, c), house.Ride{Heat: 4000})
}

// TestRideHeat has rooms that are too hot at once, soon, late and never.
func TestRideHeat(t *testing.T) {
	c := with(example(), func(c *house.Setup) { c.Fails = 0 })
	for _, x := range []struct {
		name                string
		first, limit, power int
		want                int
	}{
		{"too hot at first", 22501, 22500, 10000, 0},
		{"after a second", 22500, 22500, 10000, 0},
		{"after two seconds", 22490, 22500, 10000, 1},
		{"DOC.md, example 8", 22000, 22500, 100000, 5},
		{"after 3999 seconds", 0, 39989, 10000, 3998},
		{"after 4000 seconds", 0, 39990, 10000, 3999},
		{"after 4001 seconds", 0, 40000, 10000, 4000},
		{"after 4002 seconds", 0, 40010, 10000, 4000},
		{"never", 22500, 22500, 0, 4000},
	} {
		h := open(t, with(c, func(c *house.Setup) {
			c.Heat[0], c.Hall.Rooms[0].Limit, c.Class.High.Load[0] = x.first, x.limit, x.power
		}))
		rides(t, x.name, h, house.Ride{Seconds: x.want, Power: 4000, Heat: x.want})
	}
}

// TestRideErrors has the errors of bank.Hold: a load that is too great for it, and too many lists of fails.
func TestRideErrors(t *testing.T) {
	great := with(example(), func(c *house.Setup) {
		c.Plant.Racks = slices.Repeat([]api.Rack{{Feeds: [2]int{2, -1}, Power: 100000}}, 11)
		c.Plant.Racks[10].Power = 1
		c.Disks = make([]int, 11)
	})
	many := with(example(), func(c *house.Setup) {
		c.Bank.Generators = slices.Repeat([]bank.Generator{{Tries: 5}}, 4)
	})
	for name, x := range map[string]struct {
		c    house.Setup
		want api.Errno
	}{"a great load": {great, api.ErrRange}, "many cases": {many, api.ErrLarge}} {
		h := open(t, x.c)
		before := look(t, h)
		if r, e := h.Ride(); r != (house.Ride{}) || e != x.want {
			t.Error(name, r, e)
		}
		if !same(look(t, h), before) {
			t.Error(name, "has changed the house")
		}
	}
	h := acted(t, great, retire(10))
	if r, e := h.Ride(); r.Power != 0 || e != api.OK {
		t.Error(r, e)
	}
	// A great load is found first.
	both := with(great, func(c *house.Setup) { c.Bank = many.Bank })
	if r, e := open(t, both).Ride(); r != (house.Ride{}) || e != api.ErrRange {
		t.Error(r, e)
	}
}
