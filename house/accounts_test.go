package house_test

import (
	"math"
	"slices"
	"sort"
	"testing"

	"switchgear/api"
	"switchgear/house"
	"switchgear/meter"
)

// rows checks the rows of a house.
func rows(t *testing.T, h *house.House, want ...house.Row) {
	t.Helper()
	if l, e := h.Rows(); !slices.Equal(l, want) || e != api.OK {
		t.Error(l, e, "not", want)
	}
}

// billed checks the bill of a rack.
func billed(t *testing.T, h *house.House, rack int, want meter.Bill) {
	t.Helper()
	if b, e := h.Bill(rack); b != want || e != api.OK {
		t.Error(rack, b, e, "not", want)
	}
}

// TestExamples has the chapter's first two examples, and the last two of DOC.md.
func TestExamples(t *testing.T) {
	h := acted(t, example(), hour)
	rows(t, h, house.Row{Demand: 100, Metered: 100, Served: 100})
	billed(t, h, 0, meter.Bill{Energy: 100, Amount: 2000, Due: 2000})
	act(t, h, fault(bus(2)), nil, nil)
	act(t, h, fault(bus(3)), []int{0}, nil)
	act(t, h, hour, nil, nil)
	rows(t, h, house.Row{Demand: 100, Metered: 100, Served: 100}, house.Row{Demand: 100, Dark: 1})
	billed(t, h, 0, meter.Bill{Energy: 100, Amount: 2000, Due: 2000})
}

// out returns for how many minutes a rack is billed to be out: all is given back with a tier of at most so many.
func out(t *testing.T, c house.Setup, rack int, orders ...house.Order) int {
	t.Helper()
	return sort.Search(11000, func(minutes int) bool {
		x := with(c, func(c *house.Setup) {
			c.Tariff.Base, c.Tariff.Credit, c.Tariff.Tiers = 100, 100, []meter.Tier{{Minutes: minutes + 1, Percent: 100}}
		})
		b, e := acted(t, x, orders...).Bill(rack)
		if e != api.OK {
			t.Fatal(e)
		}
		return b.Due > 0
	})
}

// TestOut has minutes out of racks with two paths, one and none.
func TestOut(t *testing.T) {
	dark := []house.Order{fault(bus(2)), fault(bus(3)), hour, hour, mend(bus(3)), hour, mend(bus(2)), hour}
	for rack, want := range []int{120, 120, 0, 0} {
		if n := out(t, site(), rack, dark...); n != want {
			t.Error(rack, n, "not", want)
		}
	}
	one := []house.Order{hour, fault(bus(4)), hour, mend(bus(4)), fault(bus(2)), hour}
	for rack, want := range []int{0, 60, 0, 0} {
		if n := out(t, site(), rack, one...); n != want {
			t.Error(rack, n, "not", want)
		}
	}
	if n := out(t, example(), 0, fault(bus(2)), fault(bus(3)), hour); n != 60 {
		t.Error(n)
	}
	// Only an hour makes a rack be out: neither the failure nor its end.
	if n := out(t, site(), 1, fault(bus(4)), mend(bus(4)), hour, fault(bus(4))); n != 0 {
		t.Error(n)
	}
	if n := out(t, site(), 1, append([]house.Order{fault(bus(4))}, hours(168)...)...); n != 60*168 {
		t.Error(n)
	}
}

// TestRows has hours with racks in the dark, with retired ones, and with less power than is demanded.
func TestRows(t *testing.T) {
	h := acted(t, site(), hour, fault(bus(4)), hour, retire(3), hour, destroy(2, 5), retire(2), hour, mend(bus(4)), hour, fault(bus(2)), fault(bus(3)), hour)
	rows(t, h,
		house.Row{Demand: 250, Metered: 250, Served: 250},
		house.Row{Demand: 250, Metered: 170, Served: 170, Dark: 2},
		house.Row{Demand: 180, Metered: 100, Served: 100, Dark: 2},
		house.Row{Demand: 150, Metered: 100, Served: 100, Dark: 1},
		house.Row{Demand: 150, Metered: 150, Served: 150},
		house.Row{Demand: 150, Dark: 2},
	)
	// A rack that is fed is metered with its Power, though not all of it may be served.
	c := with(site(), func(c *house.Setup) { c.Plant.Links[3].Most = 60 })
	rows(t, acted(t, c, hour), house.Row{Demand: 250, Metered: 250, Served: 230})
	c = with(c, func(c *house.Setup) { c.Disks[2] = 0 })
	rows(t, acted(t, c, retire(2), hour), house.Row{Demand: 220, Metered: 220, Served: 220})
	// All racks are retired.
	c = with(site(), func(c *house.Setup) {
		for i := range c.Plant.Racks {
			c.Plant.Racks[i].Paths = 0
		}
		clear(c.Disks)
	})
	h = acted(t, c, retire(0), retire(1), retire(2), retire(3), hour)
	rows(t, h, house.Row{})
	if l, e := h.Chain(); len(l) != 0 || e != api.OK {
		t.Error(l, e)
	}
	none := with(site(), func(c *house.Setup) { c.Plant.Racks, c.Disks = nil, nil })
	rows(t, acted(t, none, hour, hour), house.Row{}, house.Row{})
	rows(t, open(t, site()))
}

// TestChain compares a chain with that of its readings, one by one.
func TestChain(t *testing.T) {
	h := acted(t, site(), hour, fault(bus(4)), retire(3), hour, destroy(2, 5), retire(2), hour)
	want := []meter.Reading{
		{Meter: 0, Hour: 0, Value: 100}, {Meter: 1, Hour: 0, Value: 50}, {Meter: 2, Hour: 0, Value: 30}, {Meter: 3, Hour: 0, Value: 70},
		{Meter: 0, Hour: 1, Value: 100}, {Meter: 1, Hour: 1}, {Meter: 2, Hour: 1},
		{Meter: 0, Hour: 2, Value: 100}, {Meter: 1, Hour: 2},
	}
	chain, _ := meter.Sign(7, want)
	if l, e := h.Chain(); !slices.Equal(l, chain) || e != api.OK {
		t.Error(l, e)
	}
	other := with(site(), func(c *house.Setup) { c.Key = math.MaxUint64 })
	first, _ := meter.Sign(math.MaxUint64, want[:4])
	if l, _ := acted(t, other, hour).Chain(); !slices.Equal(l, first) {
		t.Error(l)
	}
}

// TestBills has bills of racks that were retired in between, were out, and had no hour at all; and prices that differ by the hour.
func TestBills(t *testing.T) {
	c := with(site(), func(c *house.Setup) {
		for i := range c.Tariff.Price {
			c.Tariff.Price[i] = i + 1
		}
		c.Tariff.Base, c.Tariff.Credit, c.Tariff.Tiers = 500, 90, []meter.Tier{{Minutes: 60, Percent: 10}, {Minutes: 120, Percent: 50}}
	})
	h := open(t, c)
	for rack := range 4 {
		billed(t, h, rack, meter.Bill{Amount: 500, Due: 500})
	}
	for _, o := range []house.Order{hour, fault(bus(4)), hour, mend(bus(4)), hour, retire(3), hour} {
		h.Act(o)
	}
	billed(t, h, 0, meter.Bill{Energy: 400, Amount: 500 + 100*(1+2+3+4), Due: 1500})
	billed(t, h, 1, meter.Bill{Energy: 150, Amount: 500 + 50*(1+3+4), Credit: 90, Due: 810})
	billed(t, h, 2, meter.Bill{Energy: 90, Amount: 500 + 30*(1+3+4), Due: 740})
	billed(t, h, 3, meter.Bill{Energy: 210, Amount: 500 + 70*(1+2+3), Due: 920})
	act(t, h, fault(bus(4)), []int{1, 2}, nil)
	act(t, h, hour, nil, nil)
	billed(t, h, 1, meter.Bill{Energy: 150, Amount: 900, Credit: 450, Due: 450})
	for _, rack := range []int{-1, 4, math.MinInt, math.MaxInt} {
		if b, e := h.Bill(rack); b != (meter.Bill{}) || e != api.ErrRack {
			t.Error(rack, b, e)
		}
	}
	// The first hour of the house is hour 0 of a day; after 24 of them the next day begins.
	h = acted(t, c, hours(50)...)
	billed(t, h, 2, meter.Bill{Energy: 1500, Amount: 500 + 30*(2*300+1+2), Due: 500 + 30*603})
}
