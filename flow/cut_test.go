package flow_test

import (
	"math/rand/v2"
	"slices"
	"testing"

	"switchgear/api"
	"switchgear/flow"
)

// capacityOf returns the capacity of a cut, by the chapter's words.
func capacityOf(p api.Plant, s api.State, cut []bool) int {
	sum := 0
	for i, x := range p.Sources {
		if feeds(p, s, i) && !cut[x.Bus] {
			sum += x.Power
		}
	}
	for i, x := range p.Links {
		if conducts(p, s, i) && cut[x.A] != cut[x.B] {
			sum += x.Most
		}
	}
	for _, x := range p.Racks {
		if cut[x.Feeds[0]] || x.Feeds[1] != -1 && cut[x.Feeds[1]] {
			sum += x.Power
		}
	}
	return sum
}

// leastCut returns the least capacity of all cuts, the intersection of the cuts that have it, and how many these are.
func leastCut(p api.Plant, s api.State) (least int, cut []bool, count int) {
	least = -1
	for mask := range 1 << p.Buses {
		l := make([]bool, p.Buses)
		failed := false
		for bus := range l {
			l[bus] = mask>>bus&1 == 1
			failed = failed || l[bus] && s.BadBus[bus]
		}
		if failed {
			continue
		}
		switch n := capacityOf(p, s, l); {
		case least < 0 || n < least:
			least, cut, count = n, l, 1
		case n == least:
			count++
			for bus := range cut {
				cut[bus] = cut[bus] && l[bus]
			}
		}
	}
	return least, cut, count
}

func TestCapacity(t *testing.T) {
	p := chapter(100, 30)
	p.Racks = append(p.Racks, api.Rack{Feeds: [2]int{0, 2}, Power: 7})
	s := start(t, p)
	for _, c := range []struct {
		name     string
		change   func(s *api.State)
		cut      []bool
		capacity int
	}{
		{"nothing", func(s *api.State) {}, []bool{false, false, false}, 800},
		{"bus 0", func(s *api.State) {}, []bool{true, false, false}, 300 + 400 + 7},
		{"bus 1", func(s *api.State) {}, []bool{false, true, false}, 800 + 800 + 130},
		{"bus 2", func(s *api.State) {}, []bool{false, false, true}, 500 + 400 + 7},
		{"the ends", func(s *api.State) {}, []bool{true, false, true}, 800 + 7},
		{"all", func(s *api.State) {}, []bool{true, true, true}, 137},
		{"a source off", func(s *api.State) { s.On[0] = false }, []bool{false, false, false}, 300},
		{"a source failed", func(s *api.State) { s.BadSource[1] = true }, []bool{false, false, false}, 500},
		{"the bus of a source failed", func(s *api.State) { s.BadBus[0] = true }, []bool{false, false, false}, 300},
		{"a link open", func(s *api.State) { s.Closed[0] = false }, []bool{true, false, false}, 300 + 7},
		{"a link failed", func(s *api.State) { s.BadLink[0] = true }, []bool{true, false, false}, 300 + 7},
		{"a bus of a link failed", func(s *api.State) { s.BadBus[1] = true }, []bool{true, false, false}, 300 + 7},
		{"the second feed failed", func(s *api.State) { s.BadBus[2] = true }, []bool{true, false, false}, 400 + 7},
		{"the first feed failed", func(s *api.State) { s.BadBus[0] = true }, []bool{false, false, true}, 400 + 7},
		{"locked and earthed", func(s *api.State) { s.Locked[0], s.Earthed[0], s.Earthed[1] = true, true, true }, []bool{true, false, false}, 300 + 400 + 7},
	} {
		u := copyState(s)
		c.change(&u)
		if n, e := flow.Capacity(p, u, c.cut); n != c.capacity || e != api.OK {
			t.Error(c.name, n, e)
		}
	}
}

func TestCapacityErrors(t *testing.T) {
	p := chapter(100)
	s := start(t, p)
	s.BadBus[2] = true
	for _, c := range []struct {
		name string
		cut  []bool
		e    api.Errno
	}{
		{"nil", nil, api.ErrArg},
		{"empty", []bool{}, api.ErrArg},
		{"short", []bool{true, true}, api.ErrArg},
		{"long", []bool{true, true, false, false}, api.ErrArg},
		{"a failed bus", []bool{false, false, true}, api.ErrArg},
		{"a failed bus and others", []bool{true, true, true}, api.ErrArg},
		{"the others", []bool{true, true, false}, api.OK},
		{"no bus", []bool{false, false, false}, api.OK},
	} {
		n, e := flow.Capacity(p, s, c.cut)
		if e != c.e || e != api.OK && n != 0 || e == api.OK && n == 0 {
			t.Error(c.name, n, e)
		}
	}
	s.BadLink = nil
	if n, e := flow.Capacity(p, s, nil); n != 0 || e != api.ErrState {
		t.Error("the error of the state comes first", n, e)
	}
	p.Racks[0].Power = 0
	if n, e := flow.Capacity(p, s, nil); n != 0 || e != api.ErrRack {
		t.Error("the error of the plant comes first", n, e)
	}
}

// TestCapacityOfAllCuts compares with the chapter's words.
func TestCapacityOfAllCuts(t *testing.T) {
	r := rand.New(rand.NewPCG(1, 2))
	for range 1000 {
		p := randomPlant(r, from(r, 1, 8))
		s := randomState(r, t, p)
		cut := make([]bool, p.Buses)
		failed := false
		for bus := range cut {
			cut[bus] = r.IntN(2) == 0
			failed = failed || cut[bus] && s.BadBus[bus]
		}
		want, error := capacityOf(p, s, cut), api.OK
		if failed {
			want, error = 0, api.ErrArg
		}
		if n, e := flow.Capacity(p, s, cut); n != want || e != error {
			t.Fatalf("%+v %+v %v: %d %d, not %d %d", p, s, cut, n, e, want, error)
		}
	}
}

func TestCertify(t *testing.T) {
	p := chapter(300, 600)
	s := start(t, p)
	best := flow.Serving{Sources: []int{400, 300}, Links: []int{400, -300}, Racks: [][2]int{{300, 0}, {400, 0}}}
	less := flow.Serving{Sources: []int{399, 300}, Links: []int{399, -300}, Racks: [][2]int{{299, 0}, {400, 0}}}
	wrong := flow.Serving{Sources: []int{401, 300}, Links: []int{401, -300}, Racks: [][2]int{{300, 0}, {401, 0}}}
	least, greater := []bool{true, false, false}, []bool{false, false, false}
	for _, c := range []struct {
		name string
		x    flow.Serving
		cut  []bool
		e    api.Errno
	}{
		{"right", best, least, api.OK},
		{"another serving of the same amount", flow.Serving{Sources: []int{400, 300}, Links: []int{400, -300}, Racks: [][2]int{{100, 0}, {600, 0}}}, least, api.OK},
		{"a lesser amount", less, least, api.ErrFalse},
		{"a greater capacity", best, greater, api.ErrFalse},
		{"a cut that is none", best, nil, api.ErrArg},
		{"a lesser amount and no cut", less, []bool{true}, api.ErrArg},
		{"a serving that is not possible", wrong, least, api.ErrFlow},
		{"the serving comes before the cut", flow.Serving{}, nil, api.ErrFlow},
	} {
		if e := flow.Certify(p, s, c.x, c.cut); e != c.e {
			t.Error(c.name, e)
		}
	}
	s.BadBus[1] = true
	nothing := flow.Serving{Sources: make([]int, 2), Links: make([]int, 2), Racks: make([][2]int, 2)}
	for _, c := range []struct {
		cut []bool
		e   api.Errno
	}{{[]bool{true, false, true}, api.OK}, {[]bool{true, true, true}, api.ErrArg}, {[]bool{true, false, false}, api.ErrFalse}} {
		if e := flow.Certify(p, s, nothing, c.cut); e != c.e {
			t.Error("with bus 1 failed", c.cut, e)
		}
	}
	s.On = nil
	if e := flow.Certify(p, s, flow.Serving{}, nil); e != api.ErrState {
		t.Error("the error of the state comes first", e)
	}
	p.Links[0].Most = 0
	if e := flow.Certify(p, s, flow.Serving{}, nil); e != api.ErrLink {
		t.Error("the error of the plant comes first", e)
	}
}

// TestCertifyProves checks that what Certify accepts is the greatest amount and the least capacity, and that it accepts all of them.
func TestCertifyProves(t *testing.T) {
	r := rand.New(rand.NewPCG(3, 4))
	for range 500 {
		p := randomPlant(r, from(r, 1, 5))
		s := randomState(r, t, p)
		x, _, e := flow.Serve(p, s)
		least, _, _ := leastCut(p, s)
		if e != api.OK {
			t.Fatal(e)
		}
		none := flow.Serving{Sources: make([]int, len(p.Sources)), Links: make([]int, len(p.Links)), Racks: make([][2]int, len(p.Racks))}
		for mask := range 1 << p.Buses {
			cut := make([]bool, p.Buses)
			want := api.ErrFalse
			for bus := range cut {
				cut[bus] = mask>>bus&1 == 1
				if cut[bus] && s.BadBus[bus] {
					want = api.ErrArg
				}
			}
			if want == api.ErrFalse && capacityOf(p, s, cut) == least {
				want = api.OK
			}
			if e := flow.Certify(p, s, x, cut); e != want {
				t.Fatalf("%+v %+v %v: %d, not %d", p, s, cut, e, want)
			}
			if e := flow.Certify(p, s, none, cut); least > 0 && e != max(want, api.ErrFalse) && e != api.ErrArg {
				t.Fatalf("nothing is certified: %+v %+v %v: %d", p, s, cut, e)
			}
		}
	}
}

func TestTight(t *testing.T) {
	source := func(i int) api.Part { return api.Part{Kind: api.SourcePart, Index: i} }
	link := func(i int) api.Part { return api.Part{Kind: api.LinkPart, Index: i} }
	for _, c := range []struct {
		name   string
		racks  []int
		change func(p *api.Plant, s *api.State)
		want   []api.Part
	}{
		{"the rack", []int{100}, func(p *api.Plant, s *api.State) {}, nil},
		{"no rack", nil, func(p *api.Plant, s *api.State) {}, nil},
		{"the chapter's second example", []int{300, 600}, func(p *api.Plant, s *api.State) {}, []api.Part{source(1), link(0)}},
		{"one source off", []int{900}, func(p *api.Plant, s *api.State) { s.On[1] = false }, []api.Part{link(0)}},
		{"one source failed", []int{900}, func(p *api.Plant, s *api.State) { s.BadSource[0] = true }, []api.Part{source(1)}},
		{"a link open", []int{900}, func(p *api.Plant, s *api.State) { s.Closed[0] = false }, []api.Part{source(1)}},
		{"a link failed", []int{900}, func(p *api.Plant, s *api.State) { s.BadLink[1] = true }, []api.Part{link(0)}},
		{"both links", []int{900}, func(p *api.Plant, s *api.State) { p.Links[1].Most = 200 }, []api.Part{link(0), link(1)}},
		{"both sources", []int{900}, func(p *api.Plant, s *api.State) { p.Sources[0].Power = 399 }, []api.Part{source(0), source(1)}},
		{"a source as weak as its link", []int{900}, func(p *api.Plant, s *api.State) { p.Sources[0].Power = 400 }, []api.Part{source(0), source(1)}},
		{"sources as strong as the rack", []int{700}, func(p *api.Plant, s *api.State) { p.Sources[0].Power = 400 }, []api.Part{source(0), source(1)}},
		{"the bus of the racks failed", []int{900}, func(p *api.Plant, s *api.State) { s.BadBus[1] = true }, nil},
		{"the bus of a source failed", []int{900}, func(p *api.Plant, s *api.State) { s.BadBus[0] = true }, []api.Part{source(1)}},
		{"no source", []int{900}, func(p *api.Plant, s *api.State) { s.On = []bool{false, false} }, nil},
	} {
		p := chapter(c.racks...)
		s := start(t, p)
		c.change(&p, &s)
		if l, e := flow.Tight(p, s); e != api.OK || !slices.Equal(l, c.want) {
			t.Error(c.name, l, e)
		}
	}
	p := chapter(100)
	if l, e := flow.Tight(p, api.State{}); e != api.ErrState || len(l) != 0 {
		t.Error("not a state", l, e)
	}
	p.Sources[0].Ohm = 9
	if l, e := flow.Tight(p, api.State{}); e != api.ErrSource || len(l) != 0 {
		t.Error("not a plant", l, e)
	}
}

func TestFull(t *testing.T) {
	for _, c := range []struct {
		name   string
		racks  []int
		change func(p *api.Plant, s *api.State)
		want   bool
	}{
		{"one rack", []int{100}, func(p *api.Plant, s *api.State) {}, true},
		{"no rack", nil, func(p *api.Plant, s *api.State) {}, true},
		{"no rack and no source", nil, func(p *api.Plant, s *api.State) { s.On = []bool{false, false} }, true},
		{"as much as there is", []int{300, 400}, func(p *api.Plant, s *api.State) {}, true},
		{"one kilowatt more", []int{300, 401}, func(p *api.Plant, s *api.State) {}, false},
		{"a rack without power", []int{300}, func(p *api.Plant, s *api.State) { s.BadBus[1] = true }, false},
		{"no source", []int{1}, func(p *api.Plant, s *api.State) { s.On = []bool{false, false} }, false},
		{"another rack in the dark", []int{100}, func(p *api.Plant, s *api.State) {
			p.Buses = 4
			p.Racks = append(p.Racks, api.Rack{Feeds: [2]int{3, -1}, Power: 1})
			s.Earthed, s.BadBus = make([]bool, 4), make([]bool, 4)
		}, false},
	} {
		p := chapter(c.racks...)
		s := start(t, p)
		c.change(&p, &s)
		if full, e := flow.Full(p, s); e != api.OK || full != c.want {
			t.Error(c.name, full, e)
		}
	}
	p := chapter()
	if full, e := flow.Full(p, api.State{}); e != api.ErrState || full {
		t.Error("not a state", full, e)
	}
	p.Buses = 25
	if full, e := flow.Full(p, api.State{}); e != api.ErrBus || full {
		t.Error("not a plant", full, e)
	}
}
