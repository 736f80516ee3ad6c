package house_test

import (
	"math"
	"slices"
	"testing"

	"switchgear/api"
	"switchgear/house"
	"switchgear/meter"
	"switchgear/paths"
)

// TestKinds has orders of each kind with anything that does not belong to them, and kinds that are none.
func TestKinds(t *testing.T) {
	for kind := house.Fault; kind <= house.Retire; kind++ {
		o := house.Order{Kind: kind, Part: bus(5), Step: api.Step{Deed: api.Lock, Index: 4}, Rack: 3, Count: 1}
		c := with(site(), func(c *house.Setup) {
			if kind == house.Destroy {
				c.Disks[3] = 1
			}
		})
		bare := map[house.Kind]house.Order{house.Fault: fault(o.Part), house.Mend: mend(o.Part), house.Switch: do(api.Lock, 4), house.Hour: hour, house.Destroy: destroy(3, 1), house.Retire: retire(3)}[kind]
		// What does not belong to the kind is as wrong as it can be.
		wild := house.Order{Kind: kind, Part: api.Part{Kind: -1, Index: math.MaxInt}, Step: api.Step{Deed: 99, Index: -5}, Rack: math.MinInt, Count: math.MinInt}
		switch kind {
		case house.Fault, house.Mend:
			wild.Part = o.Part
		case house.Switch:
			wild.Step = o.Step
		case house.Destroy:
			wild.Rack, wild.Count = 3, 1
		case house.Retire:
			wild.Rack = 3
		}
		m := newModel(c)
		m.act(bare)
		for _, x := range []house.Order{o, bare, wild} {
			if s := look(t, acted(t, c, x)); !same(s, m.seen()) {
				t.Errorf("%+v: %+v", x, s)
			}
		}
	}
	h := open(t, site())
	for _, kind := range []house.Kind{0, 7, -1, 8, math.MinInt, math.MaxInt} {
		refused(t, h, house.Order{Kind: kind, Part: bus(0), Step: api.Step{Deed: api.Lock}, Count: 1}, api.ErrCommand)
		refused(t, h, house.Order{Kind: kind, Rack: -1}, api.ErrCommand)
	}
	refused(t, h, house.Order{}, api.ErrCommand)
}

// TestParts lets parts fail and mends them: parts of all kinds, parts that have failed already, and parts that are none of the plant.
func TestParts(t *testing.T) {
	h := open(t, site())
	for _, x := range []api.Part{{}, {Kind: 4}, {Kind: -1}, {Kind: math.MaxInt}, bus(-1), bus(6), source(-1), source(3), link(-1), link(5), link(math.MaxInt), bus(math.MinInt)} {
		refused(t, h, fault(x), api.ErrPart)
		refused(t, h, mend(x), api.ErrPart)
	}
	act(t, h, fault(link(4)), nil, nil)
	act(t, h, fault(link(4)), nil, nil)
	act(t, h, fault(source(2)), nil, nil)
	act(t, h, fault(bus(5)), nil, nil)
	s, _ := h.State()
	if !s.BadLink[4] || !s.BadSource[2] || !s.BadBus[5] {
		t.Error(s)
	}
	act(t, h, mend(link(4)), nil, nil)
	act(t, h, mend(source(2)), nil, nil)
	act(t, h, mend(bus(5)), nil, nil)
	act(t, h, mend(bus(5)), nil, nil)
	if s := look(t, h); !same(s, look(t, open(t, site()))) {
		t.Errorf("%+v", s)
	}
}

// TestTransfersAct has faults after which transfers act, so that less is dark, and one of a bus that they watch.
func TestTransfersAct(t *testing.T) {
	h := open(t, site())
	act(t, h, fault(source(1)), nil, nil)
	if s, _ := h.State(); !slices.Equal(s.Closed, []bool{true, false, true, true, false}) {
		t.Error(s.Closed)
	}
	// Without the other grid no transfer can act: all is dark, whatever is promised.
	act(t, h, fault(source(0)), []int{0, 1, 2, 3}, nil)
	act(t, h, mend(source(0)), nil, []int{0, 1, 2, 3})
	act(t, h, fault(bus(3)), []int{1, 2}, nil)
	act(t, h, fault(bus(2)), []int{0, 3}, nil)
	act(t, h, mend(bus(3)), nil, nil)
	act(t, h, mend(source(1)), nil, nil)
	act(t, h, do(api.Close, 1), nil, []int{0, 1, 2})
	act(t, h, mend(bus(2)), nil, []int{3})

	h = open(t, with(site(), func(c *house.Setup) { c.Transfers = nil }))
	act(t, h, fault(source(1)), []int{1, 2}, nil)
	act(t, h, mend(source(1)), nil, []int{1, 2})

	// What is dark until a link is unlocked is fed by the transfer that can act then.
	h = open(t, with(site(), func(c *house.Setup) { c.State.Locked[2] = true }))
	act(t, h, fault(source(1)), []int{1, 2}, nil)
	act(t, h, do(api.Unlock, 2), nil, []int{1, 2})
	if s, _ := h.State(); !s.Closed[2] || s.Closed[1] {
		t.Error(s)
	}
}

// TestMendSettles mends a source to which only a transfer leads.
func TestMendSettles(t *testing.T) {
	c := with(example(), func(c *house.Setup) {
		c.Plant.Racks[0] = api.Rack{Feeds: [2]int{3, -1}, Power: 100, Paths: 1}
		c.Transfers = []paths.Transfer{{Watch: 3, Open: 1, Close: 2}}
	})
	h := open(t, c)
	act(t, h, fault(source(0)), nil, nil)
	act(t, h, fault(source(1)), []int{0}, nil)
	act(t, h, mend(source(0)), nil, []int{0})
	if s, _ := h.State(); s.Closed[1] || !s.Closed[2] {
		t.Error(s)
	}
}

// TestSwitch has steps that can be done, and each error of those that cannot, or do not lead to a legal state.
func TestSwitch(t *testing.T) {
	c := with(site(), func(c *house.Setup) {
		c.Task.Fed = []int{3}
		c.Task.Crew = []int{5}
		c.State.Earthed[5], c.State.Locked[4] = true, true
	})
	for _, x := range []struct {
		name   string
		before []house.Order
		step   house.Order
		want   api.Errno
	}{
		{"no step", nil, do(0, 0), api.ErrArg},
		{"no deed", nil, do(9, 0), api.ErrArg},
		{"a cable", nil, do(api.Open, 3), api.ErrArg},
		{"no link", nil, do(api.Open, 5), api.ErrArg},
		{"no source", nil, do(api.Start, -1), api.ErrArg},
		{"it holds", nil, do(api.Close, 0), api.ErrDone},
		{"a bad link", []house.Order{fault(link(2))}, do(api.Close, 2), api.ErrBad},
		{"a bad source", []house.Order{fault(source(2))}, do(api.Start, 2), api.ErrBad},
		{"a locked link", nil, do(api.Close, 4), api.ErrLocked},
		{"a live bus", nil, do(api.Earth, 2), api.ErrEarthed},
		{"a clash", nil, do(api.Close, 2), api.ErrParallel},
		{"a dark rack", nil, do(api.Open, 0), api.ErrDark},
		{"no earth for the crew", nil, do(api.Unearth, 5), api.ErrZone},
		{"no lock for the crew", nil, do(api.Unlock, 4), api.ErrZone},
		{"a source of the crew", nil, do(api.Start, 2), api.ErrEarthed},
		{"a state that is not legal for long", []house.Order{fault(bus(2))}, do(api.Lock, 1), api.ErrDark},
	} {
		h := acted(t, c, x.before...)
		refused(t, h, x.step, x.want)
	}
	h := open(t, c)
	act(t, h, do(api.Lock, 0), nil, nil)
	refused(t, h, do(api.Open, 0), api.ErrLocked)
	act(t, h, do(api.Unlock, 0), nil, nil)
	act(t, h, do(api.Open, 1), nil, nil)
	if s, _ := h.State(); s.Closed[1] || !s.Closed[2] {
		t.Error("the transfer has not acted:", s)
	}
	act(t, h, do(api.Stop, 1), nil, nil)

	arc := with(site(), func(c *house.Setup) { c.State.On[2] = true })
	refused(t, acted(t, arc, fault(bus(3))), do(api.Close, 4), api.ErrArc)
}

// TestLegalBeforeTransfers opens a link that a rack needs until a transfer acts: the step itself must not make it dark.
func TestLegalBeforeTransfers(t *testing.T) {
	c := with(example(), func(c *house.Setup) {
		c.Plant.Racks[0] = api.Rack{Feeds: [2]int{3, -1}, Power: 100, Paths: 1}
		c.Transfers = []paths.Transfer{{Watch: 3, Open: 1, Close: 2}}
	})
	act(t, open(t, c), do(api.Open, 1), nil, nil)
	c.Task.Fed = []int{0}
	refused(t, open(t, c), do(api.Open, 1), api.ErrDark)
	// What may be done, and is to hold at the end of a program, does not matter.
	c.Task = with(c, func(c *house.Setup) { c.Task.Fed = nil }).Task
	c.Task.Allowed, c.Task.Goal = make([]api.Step, 30), make([]api.Step, 30)
	act(t, open(t, c), do(api.Open, 1), nil, nil)
}

// TestFaultsNeedNotBeLegal has faults and repairs that lead to states that are not legal.
func TestFaultsNeedNotBeLegal(t *testing.T) {
	c := with(site(), func(c *house.Setup) {
		c.Transfers = nil
		c.Task.Fed = []int{1}
		c.State.BadLink[2], c.State.Closed[2] = true, true
	})
	h := open(t, c)
	act(t, h, fault(source(1)), []int{1, 2}, nil)
	refused(t, h, do(api.Lock, 0), api.ErrDark)
	act(t, h, mend(source(1)), nil, []int{1, 2})
	act(t, h, mend(link(2)), nil, nil)
	refused(t, h, do(api.Lock, 0), api.ErrParallel)
	act(t, h, hour, nil, nil)
	act(t, h, destroy(0, 1), nil, nil)
	act(t, h, do(api.Open, 2), nil, nil)
}

// TestHours lets 168 hours pass, and no more.
func TestHours(t *testing.T) {
	h := acted(t, site(), hours(167)...)
	act(t, h, hour, nil, nil)
	for range 2 {
		refused(t, h, hour, api.ErrMany)
	}
	act(t, h, fault(bus(2)), []int{3}, nil)
	act(t, h, destroy(2, 5), nil, nil)
	act(t, h, retire(2), nil, nil)
	refused(t, h, hour, api.ErrMany)
	s := look(t, h)
	if len(s.rows) != 168 || len(s.chain) != 4*168 || s.rows[167] != (house.Row{Demand: 250, Metered: 250, Served: 250}) {
		t.Error(len(s.rows), len(s.chain), s.rows[167])
	}
	if n, e := meter.Verify(7, s.chain); n != 4*168 || e != api.OK {
		t.Error(n, e)
	}
}

// TestDisks destroys disks, and has counts and racks that are none.
func TestDisks(t *testing.T) {
	h := open(t, site())
	for _, rack := range []int{-1, 4, math.MinInt, math.MaxInt} {
		refused(t, h, destroy(rack, 0), api.ErrRack)
		refused(t, h, destroy(rack, 1), api.ErrRack)
	}
	for _, count := range []int{0, -1, 11, math.MinInt, math.MaxInt} {
		refused(t, h, destroy(0, count), api.ErrRange)
	}
	act(t, h, destroy(0, 1), nil, nil)
	refused(t, h, destroy(0, 10), api.ErrRange)
	act(t, h, destroy(0, 8), nil, nil)
	act(t, h, destroy(0, 1), nil, nil)
	refused(t, h, destroy(0, 1), api.ErrRange)
	refused(t, h, destroy(3, 1), api.ErrRange)
	act(t, h, destroy(2, 5), nil, nil)
	if l, _ := h.Disks(); !slices.Equal(l, []int{0, 20, 0, 0}) {
		t.Error(l)
	}
	c := with(site(), func(c *house.Setup) { c.Disks[1] = 100000 })
	h = acted(t, c, destroy(1, 100000))
	if l, _ := h.Disks(); l[1] != 0 {
		t.Error(l)
	}
}

// TestRetire retires racks, and has those that must not be: none, one twice, one with disks, one with a promise.
func TestRetire(t *testing.T) {
	h := open(t, site())
	for _, rack := range []int{-1, 4, math.MinInt, math.MaxInt} {
		refused(t, h, retire(rack), api.ErrRack)
	}
	refused(t, h, retire(2), api.ErrState)
	act(t, h, destroy(2, 4), nil, nil)
	refused(t, h, retire(2), api.ErrState)
	act(t, h, destroy(2, 1), nil, nil)
	act(t, h, retire(2), nil, nil)
	refused(t, h, retire(2), api.ErrDone)
	refused(t, h, destroy(2, 1), api.ErrRange)
	act(t, h, retire(3), nil, nil)
	refused(t, h, retire(3), api.ErrDone)
	if l, _ := h.Retired(); !slices.Equal(l, []bool{false, false, true, true}) {
		t.Error(l)
	}
	for rack, disks := range []int{10, 20} {
		refused(t, h, retire(rack), api.ErrState)
		act(t, h, destroy(rack, disks), nil, nil)
		refused(t, h, retire(rack), api.ErrState)
	}
	// A rack that is dark may be retired, too.
	h = acted(t, site(), fault(bus(2)))
	act(t, h, retire(3), nil, nil)
}

// TestRetiredRacksDoNotTurn has racks that are retired: they are neither turned dark nor lit.
func TestRetiredRacksDoNotTurn(t *testing.T) {
	h := acted(t, site(), retire(3))
	act(t, h, fault(bus(2)), nil, nil)
	act(t, h, mend(bus(2)), nil, nil)
	act(t, h, fault(bus(3)), []int{1, 2}, nil)
	act(t, h, destroy(2, 5), nil, nil)
	act(t, h, retire(2), nil, nil)
	act(t, h, mend(bus(3)), nil, []int{1})
	act(t, h, fault(bus(4)), []int{1}, nil)
}

// TestRun compares runs with houses on which the orders act, errors among them, and has as many orders as there may be.
func TestRun(t *testing.T) {
	orders := []house.Order{hour, fault(source(1)), {}, destroy(0, 11), hour, fault(bus(3)), destroy(2, 5), retire(2), retire(2), hour, do(api.Open, 4), mend(bus(3)), hour}
	h, events, e := house.Run(site(), orders)
	if h == nil || len(events) != len(orders) || e != api.OK {
		t.Fatal(h, events, e)
	}
	one := open(t, site())
	for i, o := range orders {
		if x := one.Act(o); !same(x, events[i]) {
			t.Errorf("%+v: %+v, not %+v", o, events[i], x)
		}
	}
	if !same(lookWhole(t, h), lookWhole(t, one)) {
		t.Errorf("%+v", look(t, h))
	}
	for i, want := range map[int]house.Event{2: {Error: api.ErrCommand}, 3: {Error: api.ErrRange}, 5: {Dark: []int{1, 2}}, 8: {Error: api.ErrDone}, 10: {Error: api.ErrDone}, 11: {Lit: []int{1}}} {
		if !same(events[i], want) {
			t.Errorf("%d: %+v", i, events[i])
		}
	}
	for _, l := range [][]house.Order{nil, {}} {
		if h, events, e := house.Run(site(), l); !same(look(t, h), look(t, open(t, site()))) || len(events) != 0 || e != api.OK {
			t.Error(events, e)
		}
	}
}

// TestManyOrders has 1000 orders and 1001: some of them have errors, since 168 hours pass in either case.
func TestManyOrders(t *testing.T) {
	h, events, e := house.Run(site(), hours(1000))
	if e != api.OK || len(events) != 1000 || events[167].Error != api.OK || events[168].Error != api.ErrMany || events[999].Error != api.ErrMany {
		t.Error(len(events), e)
	}
	if s := look(t, h); len(s.rows) != 168 {
		t.Error(len(s.rows))
	}
	for _, n := range []int{1001, 5000} {
		if h, events, e := house.Run(site(), hours(n)); h != nil || len(events) != 0 || e != api.ErrMany {
			t.Error(n, h, len(events), e)
		}
	}
	// Act has no such limit.
	h = open(t, site())
	for range 1001 {
		h.Act(fault(bus(2)))
	}
	act(t, h, mend(bus(2)), nil, []int{3})
}
