package guard_test

import (
	"math/rand/v2"
	"slices"
	"testing"

	"switchgear/api"
	"switchgear/guard"
	"switchgear/plant"
)

// ring is a plant with a ring of breakers, of which those at bus 2 are the quickest, a cable, and racks with one and two feeds.
const ring = `plant 5
source 0 grid 500 1 20
link 0 1 breaker 400 10 1000:400 10000:200
link 1 2 breaker 400 10 1000:50
link 2 3 breaker 400 10 1000:50
link 3 0 breaker 400 10 1000:400
link 3 4 cable 400 10
rack 2 -1 10 1
rack 2 4 10 2
rack 1 2 10 2
rack 4 -1 10 1
rack 4 3 10 2
rack 0 -1 10 1
`

func TestSelective(t *testing.T) {
	for _, c := range []struct {
		name, text string
		change     func(p *api.Plant, s *api.State)
		bus        int
		want       bool
	}{
		{"first example", chapter, nil, 2, true},
		{"second example", chapter, func(p *api.Plant, s *api.State) { p.Links[1].Trip = nil }, 2, false},
		{"a far one opens at the same time", chapter, func(p *api.Plant, s *api.State) { p.Links[1].Trip[0].Millis = 100 }, 2, false},
		{"a near one opens and carries no current to the bus", chapter, nil, 1, true},
		{"a bus that has failed", chapter, func(p *api.Plant, s *api.State) { s.BadBus[2] = true }, 2, true},
		{"a bus that no source reaches", chapter, func(p *api.Plant, s *api.State) { s.Closed[0] = false }, 2, true},
		{"not cleared, without events", chapter, nil, 0, false},
		{"not cleared, though only near ones open", ring, func(p *api.Plant, s *api.State) {
			p.Sources = append(p.Sources, api.Source{Bus: 1, Kind: api.Grid, Power: 1, Sync: 1, Ohm: 20})
			s.On, s.BadSource = append(s.On, true), append(s.BadSource, false)
		}, 1, false},
		{"both sides of a ring", ring, nil, 2, true},
		{"the ring over a near and a far one", ring, nil, 3, false},
		{"behind a cable all breakers are far", ring, nil, 4, false},
	} {
		p, s := parsed(t, c.text)
		if c.change != nil {
			c.change(&p, &s)
		}
		if ok, e := guard.Selective(p, s, c.bus); ok != c.want || e != api.OK {
			x, _ := guard.Clear(p, s, c.bus)
			t.Errorf("%s: %v %d: %+v", c.name, ok, e, x)
		}
	}
}

func TestSurvey(t *testing.T) {
	p, s := parsed(t, chapter)
	want := []guard.Clearing{
		wants(s, false, 0),
		wants(s, true, 17779600, guard.Event{Millis: 100, Link: 0}),
		wants(s, true, 5000000, guard.Event{Millis: 50, Link: 1}),
	}
	if l, e := guard.Survey(p, s); e != api.OK || !slices.EqualFunc(l, want, same) {
		t.Error(l, e)
	}
	s.BadBus[1] = true
	want = []guard.Clearing{wants(s, false, 0), wants(s, true, 0), wants(s, true, 0)}
	if l, e := guard.Survey(p, s); e != api.OK || !slices.EqualFunc(l, want, same) {
		t.Error(l, e)
	}
}

func TestWorst(t *testing.T) {
	two := "plant 3\nsource 1 grid 1 0 20\nlink 0 1 breaker 1 10 1:50\nlink 1 2 breaker 1 10 1:50\n"
	for _, c := range []struct {
		name, text  string
		change      func(s *api.State)
		bus, energy int
	}{
		{"chapter", chapter, func(s *api.State) {}, 1, 17779600},
		{"several with the same energy", two, func(s *api.State) {}, 0, 8889800},
		{"the first one of them is not reached", two, func(s *api.State) { s.Closed[0] = false }, 2, 8889800},
		{"a fault that is not cleared has a greater energy", "plant 3\nsource 0 grid 1 0 20\nsource 1 grid 1 0 20\nlink 0 1 breaker 1 10 1:50\nlink 0 2 breaker 1 90 1:1\n", func(s *api.State) {}, 2, 48595},
		{"none is cleared", "plant 2\nsource 0 grid 1 0 20\nlink 0 1 cable 1 10\n", func(s *api.State) {}, -1, 0},
		{"none is cleared, at one bus", "plant 1\nsource 0 grid 1 0 20\n", func(s *api.State) {}, -1, 0},
		{"all without energy", two, func(s *api.State) { s.On[0] = false }, 0, 0},
		{"only the last one is cleared, without energy", "plant 3\nsource 0 grid 1 0 20\nlink 0 1 cable 1 10\n", func(s *api.State) {}, 2, 0},
		{"one that has failed is cleared", "plant 2\nsource 0 grid 1 0 20\nlink 0 1 cable 1 10\n", func(s *api.State) { s.BadBus[1] = true }, 1, 0},
	} {
		p, s := parsed(t, c.text)
		c.change(&s)
		if bus, energy, e := guard.Worst(p, s); bus != c.bus || energy != c.energy || e != api.OK {
			t.Errorf("%s: %d %d %d", c.name, bus, energy, e)
		}
	}
}

func TestLost(t *testing.T) {
	for _, c := range []struct {
		name, text string
		change     func(s *api.State)
		bus        int
		want       []int
		e          api.Errno
	}{
		{"the last bus of the chapter", chapter, func(s *api.State) {}, 2, nil, api.OK},
		{"the first breaker opens", chapter, func(s *api.State) {}, 1, []int{1}, api.OK},
		{"not cleared", chapter, func(s *api.State) {}, 0, nil, api.ErrNone},
		{"only what hangs on the bus", ring, func(s *api.State) {}, 2, []int{0}, api.OK},
		{"both sides of the ring", ring, func(s *api.State) {}, 3, []int{0, 1, 3, 4}, api.OK},
		{"a bus that has failed", ring, func(s *api.State) { s.BadBus[2] = true }, 2, nil, api.OK},
		{"a rack whose live feed is far away is lost, too", ring, func(s *api.State) { s.Closed[0], s.Closed[1] = false, false }, 3, []int{0, 1, 2, 3, 4}, api.OK},
		{"racks that were dark before are not lost", ring, func(s *api.State) { s.Closed[0], s.Closed[1], s.Closed[2] = false, false, false }, 3, []int{1, 3, 4}, api.OK},
		{"a rack whose other feed was dead is lost", ring, func(s *api.State) { s.Closed[1], s.Closed[2] = false, false }, 1, []int{2}, api.OK},
		{"nothing was live", ring, func(s *api.State) { s.On[0] = false }, 3, nil, api.OK},
		{"a bus that no source reaches", ring, func(s *api.State) { s.Closed[2], s.Closed[3] = false, false }, 3, nil, api.OK},
	} {
		p, s := parsed(t, c.text)
		c.change(&s)
		if l, e := guard.Lost(p, s, c.bus); e != c.e || !slices.Equal(l, c.want) {
			x, _ := guard.Clear(p, s, c.bus)
			t.Errorf("%s: %v %d: %+v", c.name, l, e, x)
		}
	}
}

// TestSurveyAgreesWithClear derives what the other functions return from Clear, in random plants.
func TestSurveyAgreesWithClear(t *testing.T) {
	r := rand.New(rand.NewPCG(31, 32))
	for range 1500 {
		p := randomPlant(r)
		s := randomState(r, t, p)
		l, e := guard.Survey(p, s)
		if e != api.OK || len(l) != p.Buses {
			t.Fatalf("%+v %+v: %d %d", p, s, len(l), e)
		}
		worst, energy := -1, 0
		for bus := range slices.Backward(l) {
			x, e := guard.Clear(p, s, bus)
			if e != api.OK || !same(x, l[bus]) {
				t.Fatalf("%+v %+v: %+v, not %+v", p, s, l[bus], x)
			}
			if x.Cleared && x.Energy >= energy {
				worst, energy = bus, x.Energy
			}
			near := x.Cleared
			for _, event := range x.Events {
				near = near && (p.Links[event.Link].A == bus || p.Links[event.Link].B == bus)
			}
			if ok, e := guard.Selective(p, s, bus); ok != near || e != api.OK {
				t.Fatalf("%+v %+v: bus %d selective %v %d", p, s, bus, ok, e)
			}
			want, error := lost(t, p, s, bus, x)
			if racks, e := guard.Lost(p, s, bus); e != error || !slices.Equal(racks, want) {
				t.Fatalf("%+v %+v: bus %d lost %v %d, not %v", p, s, bus, racks, e, want)
			}
		}
		if bus, n, e := guard.Worst(p, s); bus != worst || n != energy || e != api.OK {
			t.Fatalf("%+v %+v: worst %d %d %d, not %d %d", p, s, bus, n, e, worst, energy)
		}
	}
}

// lost returns what Lost must return for a fault that is cleared like this.
func lost(t *testing.T, p api.Plant, s api.State, bus int, x guard.Clearing) ([]int, api.Errno) {
	t.Helper()
	if !x.Cleared {
		return nil, api.ErrNone
	}
	after := copyState(x.State)
	after.BadBus[bus] = true
	before, e := plant.Live(p, s)
	if e != api.OK {
		t.Fatal(e)
	}
	left, e := plant.Live(p, after)
	if e != api.OK {
		t.Fatal(e)
	}
	fed := func(live []bool, rack api.Rack) bool {
		return live[rack.Feeds[0]] || rack.Feeds[1] >= 0 && live[rack.Feeds[1]]
	}
	var list []int
	for i, rack := range p.Racks {
		if fed(before, rack) && !fed(left, rack) {
			list = append(list, i)
		}
	}
	return list, api.OK
}
