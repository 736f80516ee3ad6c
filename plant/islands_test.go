package plant_test

import (
	"slices"
	"testing"

	"switchgear/api"
	"switchgear/plant"
)

// looks checks the islands, the buses that are live, and the pairs that clash.
func looks(t *testing.T, name string, p api.Plant, s api.State, islands []plant.Island, live []bool, clashes [][2]int) {
	t.Helper()
	if l, e := plant.Islands(p, s); e != api.OK || !sameIslands(l, islands) {
		t.Error(name, "islands", l, e)
	}
	if l, e := plant.Live(p, s); e != api.OK || !slices.Equal(l, live) {
		t.Error(name, "live", l, e)
	}
	if l, e := plant.Clashes(p, s); e != api.OK || !slices.Equal(l, clashes) {
		t.Error(name, "clashes", l, e)
	}
}

func TestChapterExamples(t *testing.T) {
	p := chapter()
	all := []bool{true, true, true}
	s := start(t, p, 0)
	looks(t, "first closed", p, s, []plant.Island{{Buses: []int{0, 1}, Sources: []int{0}}, {Buses: []int{2}, Sources: []int{1}}}, all, nil)
	s.Closed[1] = true
	looks(t, "both closed", p, s, []plant.Island{{Buses: []int{0, 1, 2}, Sources: []int{0, 1}}}, all, [][2]int{{0, 1}})
	s.BadLink[0] = true
	looks(t, "first failed", p, s, []plant.Island{{Buses: []int{0}, Sources: []int{0}}, {Buses: []int{1, 2}, Sources: []int{1}}}, all, nil)
	s.BadLink[0], s.BadBus[1] = false, true
	looks(t, "bus failed", p, s, []plant.Island{{Buses: []int{0}, Sources: []int{0}}, {Buses: []int{2}, Sources: []int{1}}}, []bool{true, false, true}, nil)
	for range 4 {
		if l, e := plant.Fed(p, s); e != api.OK || !slices.Equal(l, [][2]bool{{}}) {
			t.Error("with bus 1 failed", l, e)
		}
		s.Closed[0] = !s.Closed[0]
		s.Closed[1] = s.Closed[1] != s.Closed[0]
	}
}

func TestIslands(t *testing.T) {
	p := mixed()
	s := start(t, p)
	looks(t, "only the cable", p, s, []plant.Island{{Buses: []int{0, 1}, Sources: []int{0}}, {Buses: []int{2}}, {Buses: []int{3}, Sources: []int{1}}, {Buses: []int{4}, Sources: []int{2}}}, []bool{true, true, false, true, true}, nil)
	s.Locked[1], s.Earthed[2], s.Earthed[0] = true, true, true
	s.Closed[1] = true
	looks(t, "locked and earthed", p, s, []plant.Island{{Buses: []int{0, 1, 2}, Sources: []int{0}}, {Buses: []int{3}, Sources: []int{1}}, {Buses: []int{4}, Sources: []int{2}}}, []bool{true, true, true, true, true}, nil)
	s.BadLink[0] = true
	looks(t, "cable failed", p, s, []plant.Island{{Buses: []int{0}, Sources: []int{0}}, {Buses: []int{1, 2}}, {Buses: []int{3}, Sources: []int{1}}, {Buses: []int{4}, Sources: []int{2}}}, []bool{true, false, false, true, true}, nil)
	s.BadLink[0], s.BadBus[0] = false, true
	looks(t, "bus of a source failed", p, s, []plant.Island{{Buses: []int{1, 2}}, {Buses: []int{3}, Sources: []int{1}}, {Buses: []int{4}, Sources: []int{2}}}, []bool{false, false, false, true, true}, nil)
	s.On[1], s.BadSource[2] = false, true
	looks(t, "no source", p, s, []plant.Island{{Buses: []int{1, 2}}, {Buses: []int{3}}, {Buses: []int{4}}}, make([]bool, 5), nil)
	s.BadBus = []bool{true, true, true, true, true}
	looks(t, "all buses failed", p, s, nil, make([]bool, 5), nil)
}

// TestIslandsOrder joins buses from the last one on, so that an island's least bus is met last.
func TestIslandsOrder(t *testing.T) {
	p := api.Plant{Buses: 6, Sources: []api.Source{{Bus: 5, Kind: 1, Power: 1, Ohm: 10}, {Bus: 1, Kind: 1, Power: 1, Ohm: 10}, {Bus: 4, Kind: 1, Power: 1, Ohm: 10}}}
	for _, x := range [][2]int{{5, 4}, {4, 2}, {2, 0}, {3, 1}, {1, 3}} {
		p.Links = append(p.Links, api.Link{A: x[0], B: x[1], Kind: api.Cable, Most: 1, Ohm: 10})
	}
	s := start(t, p)
	looks(t, "reversed", p, s, []plant.Island{{Buses: []int{0, 2, 4, 5}, Sources: []int{0, 2}}, {Buses: []int{1, 3}, Sources: []int{1}}}, []bool{true, true, true, true, true, true}, [][2]int{{0, 2}})
	s.BadLink[3] = true
	looks(t, "one of two parallel links failed", p, s, []plant.Island{{Buses: []int{0, 2, 4, 5}, Sources: []int{0, 2}}, {Buses: []int{1, 3}, Sources: []int{1}}}, []bool{true, true, true, true, true, true}, [][2]int{{0, 2}})
	s.BadBus[4] = true
	looks(t, "a bus between failed", p, s, []plant.Island{{Buses: []int{0, 2}}, {Buses: []int{1, 3}, Sources: []int{1}}, {Buses: []int{5}, Sources: []int{0}}}, []bool{false, true, false, true, false, true}, nil)
}

func TestIslandsOwnMemory(t *testing.T) {
	p := mixed()
	l, _ := plant.Islands(p, start(t, p, 1, 3))
	want, _ := plant.Islands(p, start(t, p, 1, 3))
	for i := range l {
		_ = append(l[i].Buses, 99)
		_ = append(l[i].Sources, 99)
	}
	if !sameIslands(l, want) {
		t.Error("islands share memory:", l)
	}
}

func TestFed(t *testing.T) {
	p := mixed()
	s := start(t, p)
	s.On[2] = false
	for _, c := range []struct {
		name   string
		change func()
		want   [][2]bool
	}{
		{"both feeds", func() {}, [][2]bool{{true, true}, {false, false}}},
		{"the second source off", func() { s.On[1] = false }, [][2]bool{{true, false}, {false, false}}},
		{"the battery on", func() { s.On[2] = true }, [][2]bool{{true, false}, {true, false}}},
		{"its breaker closed", func() { s.Closed[3] = true }, [][2]bool{{true, true}, {true, false}}},
		{"bus 1 failed", func() { s.BadBus[1] = true }, [][2]bool{{false, true}, {true, false}}},
		{"bus 4 failed", func() { s.BadBus[4] = true }, [][2]bool{{false, false}, {false, false}}},
	} {
		c.change()
		if l, e := plant.Fed(p, s); e != api.OK || !slices.Equal(l, c.want) {
			t.Error(c.name, l, e)
		}
	}
	p.Racks = nil
	if l, e := plant.Fed(p, s); e != api.OK || len(l) != 0 {
		t.Error("no racks", l, e)
	}
}

func TestClashes(t *testing.T) {
	for _, c := range []struct {
		sync []int
		want [][2]int
	}{
		{nil, nil},
		{[]int{0}, nil},
		{[]int{0, 0}, [][2]int{{0, 1}}},
		{[]int{0, 1}, [][2]int{{0, 1}}},
		{[]int{1, 0}, [][2]int{{0, 1}}},
		{[]int{1, 1}, nil},
		{[]int{8, 8, 8}, nil},
		{[]int{1, 2}, [][2]int{{0, 1}}},
		{[]int{1, 2, 1}, [][2]int{{0, 1}, {1, 2}}},
		{[]int{1, 1, 0, 2}, [][2]int{{0, 2}, {0, 3}, {1, 2}, {1, 3}, {2, 3}}},
	} {
		p := api.Plant{Buses: 2, Links: []api.Link{{A: 0, B: 1, Kind: api.Breaker, Most: 1, Ohm: 10}}}
		for i, n := range c.sync {
			p.Sources = append(p.Sources, api.Source{Bus: i % 2, Kind: api.Grid, Power: 1, Sync: n, Ohm: 10})
		}
		s := start(t, p, 0)
		if l, e := plant.Clashes(p, s); e != api.OK || !slices.Equal(l, c.want) {
			t.Error(c.sync, l, e)
		}
		if len(c.sync) != 2 {
			continue
		}
		for i, change := range []func(s *api.State){
			func(s *api.State) { s.Closed[0] = false }, func(s *api.State) { s.BadLink[0] = true },
			func(s *api.State) { s.On[0] = false }, func(s *api.State) { s.BadSource[1] = true }, func(s *api.State) { s.BadBus[0] = true },
		} {
			u := copyState(s)
			change(&u)
			if l, e := plant.Clashes(p, u); e != api.OK || len(l) != 0 {
				t.Error(c.sync, i, l, e)
			}
		}
	}
}
