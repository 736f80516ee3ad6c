package plant_test

import (
	"math"
	"slices"
	"testing"

	"switchgear/api"
	"switchgear/plant"
)

// numbersOf returns the numbers of a mixed plant that stand for themselves, with their limits and the error beyond them.
func numbersOf(p *api.Plant) []struct {
	name      string
	at        *int
	low, high int
	e         api.Errno
} {
	return []struct {
		name      string
		at        *int
		low, high int
		e         api.Errno
	}{
		{"bus of a source", &p.Sources[1].Bus, 0, p.Buses - 1, api.ErrSource},
		{"kind of a source", (*int)(&p.Sources[1].Kind), 1, 3, api.ErrSource},
		{"power of a source", &p.Sources[1].Power, 1, 100000, api.ErrSource},
		{"sync of a source", &p.Sources[1].Sync, 0, 8, api.ErrSource},
		{"ohm of a source", &p.Sources[1].Ohm, 10, 100000, api.ErrSource},
		{"a of a link", &p.Links[3].A, 0, p.Buses - 1, api.ErrLink},
		{"b of a link", &p.Links[0].B, 1, p.Buses - 1, api.ErrLink},
		{"kind of a link", (*int)(&p.Links[3].Kind), 1, 3, api.ErrLink},
		{"most of a link", &p.Links[3].Most, 1, 100000, api.ErrLink},
		{"ohm of a link", &p.Links[3].Ohm, 10, 100000, api.ErrLink},
		{"amps of a trip", &p.Links[2].Trip[0].Amps, 1, 1000000, api.ErrLink},
		{"millis of a trip", &p.Links[2].Trip[0].Millis, 1, 100000, api.ErrLink},
		{"first feed of a rack", &p.Racks[1].Feeds[0], 0, p.Buses - 1, api.ErrRack},
		{"second feed of a rack", &p.Racks[1].Feeds[1], -1, p.Buses - 2, api.ErrRack},
		{"power of a rack", &p.Racks[0].Power, 1, 100000, api.ErrRack},
		{"paths of a rack with two feeds", &p.Racks[0].Paths, 0, 2, api.ErrRack},
		{"paths of a rack with one feed", &p.Racks[1].Paths, 0, 1, api.ErrRack},
	}
}

func TestCheckNumbers(t *testing.T) {
	base := mixed()
	for i := range numbersOf(&base) {
		p := mixed()
		if i == 5 {
			p.Links[3].B = 0 // so that all buses but this one can be tried
		}
		x := numbersOf(&p)[i]
		low := x.low
		if i == 5 {
			low = 1
		}
		for _, c := range []struct {
			n int
			e api.Errno
		}{{low, api.OK}, {x.high, api.OK}, {x.low - 1, x.e}, {x.high + 1, x.e}, {math.MinInt, x.e}, {math.MaxInt, x.e}} {
			*x.at = c.n
			if e := plant.Check(p); e != c.e {
				t.Errorf("%s is %d: %d, not %d", x.name, c.n, e, c.e)
			}
		}
	}
}

func TestCheckBuses(t *testing.T) {
	for _, c := range []struct {
		buses int
		e     api.Errno
	}{{1, api.OK}, {24, api.OK}, {0, api.ErrBus}, {25, api.ErrBus}, {-1, api.ErrBus}, {math.MinInt, api.ErrBus}, {math.MaxInt, api.ErrBus}} {
		if e := plant.Check(api.Plant{Buses: c.buses}); e != c.e {
			t.Errorf("%d buses: %d, not %d", c.buses, e, c.e)
		}
	}
}

func TestCheckCounts(t *testing.T) {
	one := mixed()
	for _, c := range []struct {
		name string
		p    api.Plant
		e    api.Errno
	}{
		{"nil lists", api.Plant{Buses: 1}, api.OK},
		{"empty lists", api.Plant{Buses: 1, Sources: []api.Source{}, Links: []api.Link{}, Racks: []api.Rack{}}, api.OK},
		{"8 sources", api.Plant{Buses: 5, Sources: slices.Repeat(one.Sources[:1], 8)}, api.OK},
		{"9 sources", api.Plant{Buses: 5, Sources: slices.Repeat(one.Sources[:1], 9)}, api.ErrSource},
		{"40 links", api.Plant{Buses: 5, Links: slices.Repeat(one.Links[:1], 40)}, api.OK},
		{"41 links", api.Plant{Buses: 5, Links: slices.Repeat(one.Links[:1], 41)}, api.ErrLink},
		{"24 racks", api.Plant{Buses: 5, Racks: slices.Repeat(one.Racks[:1], 24)}, api.OK},
		{"25 racks", api.Plant{Buses: 5, Racks: slices.Repeat(one.Racks[:1], 25)}, api.ErrRack},
		{"a wrong last source", api.Plant{Buses: 5, Sources: append(slices.Clone(one.Sources), api.Source{})}, api.ErrSource},
		{"a wrong last link", api.Plant{Buses: 5, Links: append(slices.Clone(one.Links), api.Link{})}, api.ErrLink},
		{"a wrong last rack", api.Plant{Buses: 5, Racks: append(slices.Clone(one.Racks), api.Rack{})}, api.ErrRack},
	} {
		if e := plant.Check(c.p); e != c.e {
			t.Errorf("%s: %d, not %d", c.name, e, c.e)
		}
	}
}

func TestCheckTrips(t *testing.T) {
	six := []api.Trip{{Amps: 1, Millis: 6}, {Amps: 2, Millis: 5}, {Amps: 3, Millis: 4}, {Amps: 4, Millis: 3}, {Amps: 5, Millis: 2}, {Amps: 6, Millis: 1}}
	seven := append([]api.Trip{{Amps: 1, Millis: 8}}, slices.Clone(six)...)
	for i := range seven {
		seven[i].Amps = i + 1
	}
	for _, c := range []struct {
		name string
		kind api.LinkKind
		trip []api.Trip
		e    api.Errno
	}{
		{"none", api.Breaker, nil, api.OK},
		{"an empty list", api.Cable, []api.Trip{}, api.OK},
		{"six", api.Breaker, six, api.OK},
		{"seven", api.Breaker, seven, api.ErrLink},
		{"of a cable", api.Cable, six[:1], api.ErrLink},
		{"of a switch", api.Switch, six[:1], api.ErrLink},
		{"equal amps", api.Breaker, []api.Trip{{Amps: 5, Millis: 9}, {Amps: 5, Millis: 8}}, api.ErrLink},
		{"less amps", api.Breaker, []api.Trip{{Amps: 5, Millis: 9}, {Amps: 4, Millis: 8}}, api.ErrLink},
		{"equal millis", api.Breaker, []api.Trip{{Amps: 5, Millis: 9}, {Amps: 6, Millis: 9}}, api.ErrLink},
		{"more millis", api.Breaker, []api.Trip{{Amps: 5, Millis: 9}, {Amps: 6, Millis: 10}}, api.ErrLink},
		{"a wrong last one", api.Breaker, []api.Trip{{Amps: 5, Millis: 9}, {Amps: 6, Millis: 8}, {Amps: 7, Millis: 8}}, api.ErrLink},
		{"too many amps at the end", api.Breaker, []api.Trip{{Amps: 5, Millis: 9}, {Amps: 1000001, Millis: 8}}, api.ErrLink},
		{"no millis at the end", api.Breaker, []api.Trip{{Amps: 5, Millis: 9}, {Amps: 6, Millis: 0}}, api.ErrLink},
	} {
		p := api.Plant{Buses: 2, Links: []api.Link{{A: 0, B: 1, Kind: c.kind, Most: 1, Ohm: 10, Trip: c.trip}}}
		if e := plant.Check(p); e != c.e {
			t.Errorf("%s: %d, not %d", c.name, e, c.e)
		}
	}
}

func TestCheckEnds(t *testing.T) {
	p := mixed()
	p.Links[1].A, p.Links[1].B = 2, 2
	if e := plant.Check(p); e != api.ErrLink {
		t.Error("a link from a bus to itself:", e)
	}
	p = mixed()
	p.Racks[0].Feeds = [2]int{3, 3}
	if e := plant.Check(p); e != api.ErrRack {
		t.Error("a rack with one bus twice:", e)
	}
	p.Racks[0].Feeds = [2]int{-1, 3}
	if e := plant.Check(p); e != api.ErrRack {
		t.Error("a rack without a first feed:", e)
	}
	p.Racks[0].Feeds = [2]int{3, -2}
	if e := plant.Check(p); e != api.ErrRack {
		t.Error("a rack with the second feed -2:", e)
	}
}

func TestCheckOrder(t *testing.T) {
	p := api.Plant{Buses: 0, Sources: make([]api.Source, 9), Links: make([]api.Link, 41), Racks: make([]api.Rack, 25)}
	for _, c := range []struct {
		e   api.Errno
		fix func()
	}{
		{api.ErrBus, func() { p.Buses = 1 }},
		{api.ErrSource, func() { p.Sources = p.Sources[:1] }},
		{api.ErrSource, func() { p.Sources = nil }},
		{api.ErrLink, func() { p.Links = p.Links[:1] }},
		{api.ErrLink, func() { p.Links = nil }},
		{api.ErrRack, func() { p.Racks = p.Racks[:1] }},
		{api.ErrRack, func() { p.Racks = nil }},
		{api.OK, func() {}},
	} {
		if e := plant.Check(p); e != c.e {
			t.Errorf("%d, not %d", e, c.e)
		}
		c.fix()
	}
}

func TestCheckState(t *testing.T) {
	p := mixed()
	if e := plant.CheckState(p, start(t, p, 1, 2)); e != api.OK {
		t.Error("a right state:", e)
	}
	for i := range 7 {
		s := start(t, p)
		l := lists(&s)[i]
		*l = append(*l, false)
		if e := plant.CheckState(p, s); e != api.ErrState {
			t.Errorf("list %d is too long: %d", i, e)
		}
		*l = (*l)[:len(*l)-2]
		if e := plant.CheckState(p, s); e != api.ErrState {
			t.Errorf("list %d is too short: %d", i, e)
		}
		*l = nil
		if e := plant.CheckState(p, s); e != api.ErrState {
			t.Errorf("list %d is nil: %d", i, e)
		}
	}
	if e := plant.CheckState(api.Plant{}, api.State{}); e != api.ErrBus {
		t.Error("the error of the plant comes first:", e)
	}
	bare := api.Plant{Buses: 1}
	for _, none := range [][]bool{nil, {}} {
		s := api.State{Closed: none, Locked: none, BadLink: none, On: none, BadSource: none, Earthed: []bool{true}, BadBus: []bool{true}}
		if e := plant.CheckState(bare, s); e != api.OK {
			t.Error("a plant without links and sources:", e)
		}
	}
}

func TestCheckStateCables(t *testing.T) {
	p := mixed()
	for _, c := range []struct {
		link           int
		closed, locked bool
		e              api.Errno
	}{
		{0, true, false, api.OK}, {0, false, false, api.ErrState}, {0, true, true, api.ErrState}, {0, false, true, api.ErrState},
		{1, false, true, api.OK}, {1, true, true, api.OK}, {3, false, false, api.OK}, {3, true, true, api.OK},
	} {
		s := start(t, p)
		s.Closed[c.link], s.Locked[c.link] = c.closed, c.locked
		if e := plant.CheckState(p, s); e != c.e {
			t.Errorf("%+v: %d", c, e)
		}
	}
	s := start(t, p)
	s.BadLink[0] = true
	if e := plant.CheckState(p, s); e != api.OK {
		t.Error("a cable that has failed is still closed:", e)
	}
}

func TestInitial(t *testing.T) {
	p := mixed()
	s, e := plant.Initial(p)
	want := api.State{
		Closed: []bool{true, false, false, false}, Locked: make([]bool, 4), BadLink: make([]bool, 4),
		On: make([]bool, 3), BadSource: make([]bool, 3), Earthed: make([]bool, 5), BadBus: make([]bool, 5),
	}
	if e != api.OK || !sameState(s, want) {
		t.Error(s, e)
	}
	for i, l := range lists(&s) {
		for k := range *l {
			(*l)[k] = !(*l)[k]
			(*lists(&want)[i])[k] = !(*lists(&want)[i])[k]
		}
	}
	if !sameState(s, want) {
		t.Error("lists of a state share memory")
	}
	p.Racks[0].Power = 0
	if s, e := plant.Initial(p); e != api.ErrRack || !zeroState(s) {
		t.Error(s, e)
	}
}
