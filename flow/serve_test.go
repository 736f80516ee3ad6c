package flow_test

import (
	"math/rand/v2"
	"slices"
	"testing"

	"switchgear/api"
	"switchgear/flow"
)

// serves checks the amount of a serving that is possible and has all its numbers, and the least cut.
func serves(t *testing.T, name string, p api.Plant, s api.State, amount int, cut []bool) {
	t.Helper()
	x, l, e := flow.Serve(p, s)
	if e != api.OK || !slices.Equal(l, cut) {
		t.Errorf("%s: the cut %v, not %v; %d", name, l, cut, e)
		return
	}
	if len(x.Sources) != len(p.Sources) || len(x.Links) != len(p.Links) || len(x.Racks) != len(p.Racks) || !isPossible(p, s, x) {
		t.Errorf("%s: not possible: %+v", name, x)
		return
	}
	if n := flow.Amount(x); n != amount {
		t.Errorf("%s: the amount %d, not %d", name, n, amount)
	}
	if e := flow.CheckServing(p, s, x); e != api.OK {
		t.Errorf("%s: CheckServing: %d", name, e)
	}
	if n, e := flow.Capacity(p, s, l); n != amount || e != api.OK {
		t.Errorf("%s: Capacity: %d %d", name, n, e)
	}
	if e := flow.Certify(p, s, x, l); e != api.OK {
		t.Errorf("%s: Certify: %d", name, e)
	}
}

func TestChapterServings(t *testing.T) {
	p := chapter(100)
	s := start(t, p)
	serves(t, "first example", p, s, 100, []bool{true, true, true})
	if full, e := flow.Full(p, s); !full || e != api.OK {
		t.Error(full, e)
	}
	if l, e := flow.Tight(p, s); len(l) != 0 || e != api.OK {
		t.Error(l, e)
	}
	p = chapter(300, 600)
	serves(t, "second example", p, s, 700, []bool{true, false, false})
	if full, e := flow.Full(p, s); full || e != api.OK {
		t.Error(full, e)
	}
	if l, e := flow.Tight(p, s); !slices.Equal(l, []api.Part{{Kind: api.SourcePart, Index: 1}, {Kind: api.LinkPart, Index: 0}}) || e != api.OK {
		t.Error(l, e)
	}
}

func TestServeStates(t *testing.T) {
	for _, c := range []struct {
		name   string
		change func(p *api.Plant, s *api.State)
		amount int
		cut    []bool
	}{
		{"no source", func(p *api.Plant, s *api.State) { s.On = []bool{false, false} }, 0, []bool{false, false, false}},
		{"the first source off", func(p *api.Plant, s *api.State) { s.On[0] = false }, 300, []bool{false, false, false}},
		{"the second source failed", func(p *api.Plant, s *api.State) { s.BadSource[1] = true }, 400, []bool{true, false, false}},
		{"the second link open", func(p *api.Plant, s *api.State) { s.Closed[1] = false }, 400, []bool{true, false, true}},
		{"the first link failed", func(p *api.Plant, s *api.State) { s.BadLink[0] = true }, 300, []bool{true, false, false}},
		{"the racks' bus failed", func(p *api.Plant, s *api.State) { s.BadBus[1] = true }, 0, []bool{true, false, true}},
		{"a source's bus failed", func(p *api.Plant, s *api.State) { s.BadBus[0] = true }, 300, []bool{false, false, false}},
		{"all buses failed", func(p *api.Plant, s *api.State) { s.BadBus = []bool{true, true, true} }, 0, []bool{false, false, false}},
		{"no rack", func(p *api.Plant, s *api.State) { p.Racks = nil }, 0, []bool{true, true, true}},
		{"no rack and no source", func(p *api.Plant, s *api.State) { p.Racks, p.Sources, s.On, s.BadSource = nil, nil, nil, nil }, 0, []bool{false, false, false}},
		{"locked and earthed", func(p *api.Plant, s *api.State) {
			s.Locked, s.Earthed = []bool{true, true}, []bool{true, true, true}
		}, 700, []bool{true, false, false}},
		{"two feeds, one failed", func(p *api.Plant, s *api.State) {
			p.Racks, s.BadBus[0] = []api.Rack{{Feeds: [2]int{0, 2}, Power: 200}}, true
		}, 200, []bool{false, true, true}},
		{"two feeds, both failed", func(p *api.Plant, s *api.State) {
			p.Racks, s.BadBus = []api.Rack{{Feeds: [2]int{0, 2}, Power: 200}}, []bool{true, false, true}
		}, 0, []bool{false, false, false}},
		{"two feeds, both needed", func(p *api.Plant, s *api.State) {
			p.Racks, s.Closed = []api.Rack{{Feeds: [2]int{2, 0}, Power: 750}}, []bool{false, false}
		}, 750, []bool{true, false, true}},
		{"two feeds, more than there is", func(p *api.Plant, s *api.State) {
			p.Racks, s.Closed = []api.Rack{{Feeds: [2]int{2, 0}, Power: 801}}, []bool{false, false}
		}, 800, []bool{false, false, false}},
		{"several least cuts: the sources are as much as the racks", func(p *api.Plant, s *api.State) { p.Racks[1].Power, p.Sources[0].Power = 400, 400 }, 700, []bool{false, false, false}},
		{"several least cuts: a link is as much as the racks", func(p *api.Plant, s *api.State) { p.Racks[1].Power = 400 }, 700, []bool{true, false, false}},
		{"the only least cut is all buses", func(p *api.Plant, s *api.State) { p.Racks[1].Power = 399 }, 699, []bool{true, true, true}},
	} {
		p := chapter(300, 600)
		s := start(t, p)
		c.change(&p, &s)
		serves(t, c.name, p, s, c.amount, c.cut)
	}
}

// TestServeTurnsBack needs flow to be taken back from a first way: the middle link carries nothing in the end.
func TestServeTurnsBack(t *testing.T) {
	p := wired(6, [2]int{0, 1}, [2]int{1, 4}, [2]int{4, 5}, [2]int{0, 2}, [2]int{2, 3}, [2]int{3, 4}, [2]int{1, 3})
	p.Sources[0].Power = 1000
	for i := range p.Links {
		p.Links[i].Most = 10
	}
	p.Links[2].Most = 100
	p.Racks = []api.Rack{{Feeds: [2]int{5, -1}, Power: 90}}
	serves(t, "two ways", p, start(t, p), 20, []bool{true, false, false, false, false, false})
}

// TestServeAnyDirection serves racks over links that are written from either end, and over parallel ones.
func TestServeAnyDirection(t *testing.T) {
	for _, ends := range [][][2]int{{{0, 1}, {1, 2}}, {{1, 0}, {1, 2}}, {{0, 1}, {2, 1}}, {{1, 0}, {2, 1}}, {{0, 1}, {1, 0}, {2, 1}, {1, 2}}} {
		p := wired(3, ends...)
		for i := range p.Links {
			p.Links[i].Most = 40 / (len(ends) / 2)
		}
		p.Racks = []api.Rack{{Feeds: [2]int{2, -1}, Power: 90}}
		serves(t, "a chain", p, start(t, p), 40, []bool{true, false, false})
	}
}

// TestServeAtLimits serves the greatest plant with the greatest numbers.
func TestServeAtLimits(t *testing.T) {
	p := fullPlant()
	s := start(t, p)
	cut := make([]bool, p.Buses)
	serves(t, "8 sources", p, s, 800000, cut)
	if l, e := flow.Tight(p, s); len(l) != 8 || e != api.OK {
		t.Error(l, e)
	}
	p.Racks = slices.Repeat([]api.Rack{{Feeds: [2]int{0, -1}, Power: api.MaxPower}}, api.MaxRacks)
	for i := range p.Sources {
		p.Sources[i].Bus = 0
	}
	serves(t, "all at one bus", p, s, 800000, cut)
	for i := range p.Racks {
		p.Racks[i].Power = 1
	}
	for i := range cut {
		cut[i] = true
	}
	serves(t, "small racks", p, s, 24, cut)
	if n, e := flow.Capacity(p, s, make([]bool, p.Buses)); n != 800000 || e != api.OK {
		t.Error(n, e)
	}
	for i := range p.Racks {
		p.Racks[i].Power = api.MaxPower
	}
	if n, e := flow.Capacity(p, s, cut); n != 2400000 || e != api.OK {
		t.Error("the greatest amount of racks", n, e)
	}
}

func TestServeErrors(t *testing.T) {
	p := chapter(100)
	x, cut, e := flow.Serve(p, api.State{})
	if e != api.ErrState || !zeroServing(x) || len(cut) != 0 {
		t.Error("not a state", x, cut, e)
	}
	p.Racks[0].Paths = 2
	if x, cut, e := flow.Serve(p, api.State{}); e != api.ErrRack || !zeroServing(x) || len(cut) != 0 {
		t.Error("not a plant", x, cut, e)
	}
}

// TestServeAllCuts compares with all cuts of small plants.
func TestServeAllCuts(t *testing.T) {
	r := rand.New(rand.NewPCG(7, 8))
	several := 0
	for range 3000 {
		p := randomPlant(r, from(r, 1, 7))
		s := randomState(r, t, p)
		least, cut, count := leastCut(p, s)
		if count > 1 {
			several++
		}
		serves(t, "random", p, s, least, cut)
		checkTight(t, p, s, cut)
		wanted := 0
		for _, x := range p.Racks {
			wanted += x.Power
		}
		if full, e := flow.Full(p, s); e != api.OK || full != (least == wanted) {
			t.Error("Full", full, e)
		}
		if t.Failed() {
			t.Fatalf("%+v %+v", p, s)
		}
	}
	if several < 500 {
		t.Error("too few plants have several least cuts:", several)
	}
}

// checkTight compares Tight with the sources and links that count for a cut.
func checkTight(t *testing.T, p api.Plant, s api.State, cut []bool) {
	t.Helper()
	var want []api.Part
	for i, x := range p.Sources {
		if feeds(p, s, i) && !cut[x.Bus] {
			want = append(want, api.Part{Kind: api.SourcePart, Index: i})
		}
	}
	for i, x := range p.Links {
		if conducts(p, s, i) && cut[x.A] != cut[x.B] {
			want = append(want, api.Part{Kind: api.LinkPart, Index: i})
		}
	}
	if l, e := flow.Tight(p, s); e != api.OK || !slices.Equal(l, want) {
		t.Error("Tight", l, e, "not", want)
	}
}

// moreReaches returns the buses to which a serving leaves room for more from a source: those of the least cut, if the serving is one of the greatest.
func moreReaches(p api.Plant, s api.State, x flow.Serving) []bool {
	met := make([]bool, p.Buses)
	for range p.Buses + len(p.Racks) + 1 {
		for i, source := range p.Sources {
			if feeds(p, s, i) && x.Sources[i] < source.Power {
				met[source.Bus] = true
			}
		}
		for i, link := range p.Links {
			if conducts(p, s, i) {
				met[link.A] = met[link.A] || met[link.B] && x.Links[i] > -link.Most
				met[link.B] = met[link.B] || met[link.A] && x.Links[i] < link.Most
			}
		}
		for i, rack := range p.Racks {
			for feed, bus := range rack.Feeds {
				other := rack.Feeds[1-feed]
				if bus != -1 && other != -1 && !s.BadBus[bus] && !s.BadBus[other] {
					met[other] = met[other] || met[bus] && x.Racks[i][1-feed] > 0
				}
			}
		}
	}
	return met
}

// TestServeGreatPlants checks servings and cuts of plants with 24 buses, which have too many cuts to try all of them.
func TestServeGreatPlants(t *testing.T) {
	r := rand.New(rand.NewPCG(9, 10))
	for range 300 {
		p := randomPlant(r, api.MaxBuses)
		for len(p.Racks) < api.MaxRacks {
			p.Racks = append(p.Racks, api.Rack{Feeds: [2]int{r.IntN(12), 12 + r.IntN(12)}, Power: from(r, 1, 4)})
		}
		for len(p.Sources) < api.MaxSources {
			p.Sources = append(p.Sources, api.Source{Bus: r.IntN(24), Kind: api.Grid, Power: from(r, 1, 20), Ohm: 10})
		}
		s := randomState(r, t, p)
		x, _, e := flow.Serve(p, s)
		if e != api.OK || len(x.Sources) != len(p.Sources) || len(x.Links) != len(p.Links) || len(x.Racks) != len(p.Racks) {
			t.Fatal(x, e)
		}
		serves(t, "great", p, s, flow.Amount(x), moreReaches(p, s, x))
		if t.Failed() {
			t.Fatalf("%+v %+v", p, s)
		}
	}
}
