package house_test

import (
	"math"
	"slices"
	"testing"

	"switchgear/api"
	"switchgear/bank"
	"switchgear/heat"
	"switchgear/house"
	"switchgear/meter"
	"switchgear/paths"
	"switchgear/steps"
)

// wrong checks that a setup has an error with each function that takes one.
func wrong(t *testing.T, name string, c house.Setup, want api.Errno) {
	t.Helper()
	if e := house.Check(c); e != want {
		t.Error(name, "Check:", e, "not", want)
	}
	if h, e := house.Open(c); h != nil || e != want {
		t.Error(name, "Open:", h, e)
	}
	for _, l := range [][]house.Order{nil, {hour}, {{}}, make([]house.Order, 1001)} {
		if h, events, e := house.Run(c, l); h != nil || len(events) != 0 || e != want {
			t.Error(name, "Run:", h, events, e)
		}
	}
	if l, e := house.Commission(c, house.Claims{Two: true, Selective: true, Arc: 1, Ride: 1}); len(l) != 0 || e != want {
		t.Error(name, "Commission:", l, e)
	}
	if x, e := house.Stranded(c); !same(x, house.Strand{}) || e != want {
		t.Error(name, "Stranded:", x, e)
	}
}

// flaw spoils a setup of the yard.
type flaw struct {
	name  string
	spoil func(c *house.Setup)
	want  api.Errno
}

// flaws has what may be wrong with a setup, in the order of the chapter's table.
func flaws() []flaw {
	return []flaw{
		{"buses", func(c *house.Setup) { c.Plant.Buses = 25 }, api.ErrBus},
		{"a source", func(c *house.Setup) { c.Plant.Sources[2].Power = 0 }, api.ErrSource},
		{"a link", func(c *house.Setup) { c.Plant.Links[0].Most = 0 }, api.ErrLink},
		{"a rack", func(c *house.Setup) { c.Plant.Racks[1].Paths = 2 }, api.ErrRack},
		{"the state", func(c *house.Setup) { c.State.Earthed = nil }, api.ErrState},
		{"a cable that is open", func(c *house.Setup) { c.State.Closed[3] = false }, api.ErrState},
		{"a transfer", func(c *house.Setup) { c.Transfers[1].Close = 3 }, api.ErrArg},
		{"many transfers", func(c *house.Setup) { c.Transfers = slices.Repeat(c.Transfers[:1], 17) }, api.ErrArg},
		{"a rack of the task", func(c *house.Setup) { c.Task.Fed = []int{4} }, api.ErrArg},
		{"a crew's bus", func(c *house.Setup) { c.Task.Crew = []int{6} }, api.ErrArg},
		{"many racks of the task", func(c *house.Setup) { c.Task.Fed = make([]int, 25) }, api.ErrArg},
		{"an earthed bus", func(c *house.Setup) { c.State.Earthed[0] = true }, api.ErrEarthed},
		{"sources that clash", func(c *house.Setup) { c.State.Closed[2] = true }, api.ErrParallel},
		{"a dark rack", func(c *house.Setup) { c.State.BadBus[4], c.Task.Fed = true, []int{0, 1} }, api.ErrDark},
		{"a crew", func(c *house.Setup) { c.Task.Crew = []int{5} }, api.ErrZone},
		{"many batteries", func(c *house.Setup) { c.Bank.Batteries = make([]bank.Battery, 9) }, api.ErrMany},
		{"many generators", func(c *house.Setup) { c.Bank.Generators = make([]bank.Generator, 7) }, api.ErrMany},
		{"a battery", func(c *house.Setup) { c.Bank.Batteries[0].Energy = 1001 }, api.ErrRange},
		{"a generator", func(c *house.Setup) { c.Bank.Generators[0].Tries = 0 }, api.ErrRange},
		{"fails", func(c *house.Setup) { c.Fails = -1 }, api.ErrArg},
		{"no room", func(c *house.Setup) { c.Hall.Rooms = nil }, api.ErrMany},
		{"a room", func(c *house.Setup) { c.Hall.Rooms[0].Store = 0 }, api.ErrRange},
		{"a slope", func(c *house.Setup) { c.Hall.Walls = []heat.Wall{{A: 0, B: -1, Pass: 1001}} }, api.ErrHeat},
		{"the loads of a class", func(c *house.Setup) { c.Class.Low.Load = nil }, api.ErrArg},
		{"a load of a class", func(c *house.Setup) { c.Class.High.Load[0] = -1 }, api.ErrRange},
		{"the order of a class", func(c *house.Setup) { c.Class.Low.Out = 30001 }, api.ErrBox},
		{"the temperatures", func(c *house.Setup) { c.Heat = []int{1, 2} }, api.ErrArg},
		{"a temperature", func(c *house.Setup) { c.Heat[0] = 1000001 }, api.ErrRange},
		{"the prices", func(c *house.Setup) { c.Tariff.Price = c.Tariff.Price[1:] }, api.ErrArg},
		{"many tiers", func(c *house.Setup) { c.Tariff.Tiers = make([]meter.Tier, 9) }, api.ErrMany},
		{"a base", func(c *house.Setup) { c.Tariff.Base = -1 }, api.ErrRange},
		{"too few disks", func(c *house.Setup) { c.Disks = c.Disks[:3] }, api.ErrArg},
		{"too many disks", func(c *house.Setup) { c.Disks = append(c.Disks, 1) }, api.ErrArg},
		{"-1 disks", func(c *house.Setup) { c.Disks[0] = -1 }, api.ErrRange},
		{"100001 disks", func(c *house.Setup) { c.Disks[len(c.Disks)-1] = 100001 }, api.ErrRange},
	}
}

// TestCheck has setups that are right, though they look odd.
func TestCheck(t *testing.T) {
	for name, change := range map[string]func(c *house.Setup){
		"nothing else":        func(c *house.Setup) {},
		"no fails":            func(c *house.Setup) { c.Fails = 0 },
		"many fails":          func(c *house.Setup) { c.Fails = math.MaxInt },
		"no disks":            func(c *house.Setup) { clear(c.Disks) },
		"many disks":          func(c *house.Setup) { c.Disks = []int{100000, 100000, 0, 100000} },
		"no bank":             func(c *house.Setup) { c.Bank = bank.Bank{} },
		"no transfers":        func(c *house.Setup) { c.Transfers = nil },
		"no racks":            func(c *house.Setup) { c.Plant.Racks, c.Disks = nil, nil },
		"too hot":             func(c *house.Setup) { c.Heat[0] = 1000000 },
		"allowed steps":       func(c *house.Setup) { c.Task.Allowed = make([]api.Step, 25) },
		"goals":               func(c *house.Setup) { c.Task.Goal = []api.Step{{Deed: 9, Index: -1}} },
		"racks that are fed":  func(c *house.Setup) { c.Task.Fed = []int{3, 0, 0, 2, 1} },
		"a crew that is safe": func(c *house.Setup) { c.Task.Crew, c.State.Earthed[5], c.State.Locked[4] = []int{5}, true, true },
		"a power that no bank can hold": func(c *house.Setup) {
			c.Plant.Racks = slices.Repeat([]api.Rack{{Feeds: [2]int{0, -1}, Power: 100000}}, 11)
			c.Disks = make([]int, 11)
		},
	} {
		c := with(site(), change)
		if e := house.Check(c); e != api.OK {
			t.Error(name, e)
		}
		if s := look(t, open(t, c)); !same(s, newModel(c).seen()) {
			t.Errorf("%s: %+v", name, s)
		}
	}
	wrong(t, "no setup", house.Setup{}, api.ErrBus)
}

// TestFlaws has setups with each one thing wrong, and with several: the one that the chapter's table names first must show.
func TestFlaws(t *testing.T) {
	list := flaws()
	for i, f := range list {
		wrong(t, f.name, with(site(), f.spoil), f.want)
		for _, g := range list[i+1:] {
			both := with(site(), func(c *house.Setup) {
				// What is named last is spoiled first, so that what is named first stays.
				g.spoil(c)
				f.spoil(c)
			})
			if e := house.Check(both); e != f.want {
				t.Error(f.name, "and", g.name, e)
			}
		}
		all := with(site(), func(c *house.Setup) {
			for _, g := range slices.Backward(list[i:]) {
				g.spoil(c)
			}
		})
		wrong(t, f.name+" and all below", all, f.want)
	}
}

// TestFirstOfDisks has wrong disks in a list that is too short, and in one for which all racks are wrong.
func TestFirstOfDisks(t *testing.T) {
	wrong(t, "one number", with(site(), func(c *house.Setup) { c.Disks = []int{-1} }), api.ErrArg)
	wrong(t, "five numbers", with(site(), func(c *house.Setup) { c.Disks = []int{0, 0, 0, 0, 100001} }), api.ErrArg)
	wrong(t, "all", with(site(), func(c *house.Setup) { c.Disks = []int{math.MinInt, -1, 100001, math.MaxInt} }), api.ErrRange)
}

// TestLegalBeforeSettling has a rack that only a transfer feeds: the state of the setup counts, though the settled one would be legal.
func TestLegalBeforeSettling(t *testing.T) {
	c := with(example(), func(c *house.Setup) {
		c.Plant.Racks[0] = api.Rack{Feeds: [2]int{3, -1}, Power: 100, Paths: 1}
		c.State.BadSource[1] = true
		c.Transfers = []paths.Transfer{{Watch: 3, Open: 1, Close: 2}}
		c.Task.Fed = []int{0}
	})
	settled, _, e := paths.Settle(c.Plant, c.State, c.Transfers)
	if e != api.OK || steps.Legal(c.Plant, settled, c.Task) != api.OK {
		t.Fatal(settled, e)
	}
	wrong(t, "dark at first", c, api.ErrDark)
	c.Task.Fed = nil
	h := open(t, c)
	if s, _ := h.State(); !same(s, settled) || s.Closed[1] || !s.Closed[2] {
		t.Error(s)
	}
	// A wrong transfer is found before a state that is not legal.
	c.Task.Fed = []int{0}
	c.Transfers[0].Close = 5
	wrong(t, "and a transfer", c, api.ErrArg)
}

// TestOpen looks at houses that are just opened.
func TestOpen(t *testing.T) {
	for _, c := range []house.Setup{example(), site(), with(site(), func(c *house.Setup) { c.State.On[0] = false })} {
		h := open(t, c)
		s := lookWhole(t, h)
		settled, _, _ := paths.Settle(c.Plant, c.State, c.Transfers)
		if !same(s, newModel(c).seenWhole()) || !same(s.state, settled) || len(s.rows) != 0 || len(s.chain) != 0 || !slices.Equal(s.disks, c.Disks) || slices.Contains(s.retired, true) {
			t.Errorf("%+v", s)
		}
		if s.bills[0] != (meter.Bill{}) {
			t.Error(s.bills)
		}
	}
	if s := look(t, open(t, with(site(), func(c *house.Setup) { c.State.On[0] = false }))); s.state.Closed[0] || !s.state.Closed[2] {
		t.Error("not settled:", s.state)
	}
}
