package flow_test

import (
	"math"
	"math/rand/v2"
	"slices"
	"testing"

	"switchgear/api"
	"switchgear/flow"
)

func TestAmount(t *testing.T) {
	for _, c := range []struct {
		racks [][2]int
		want  int
	}{
		{nil, 0},
		{[][2]int{}, 0},
		{[][2]int{{3, 4}}, 7},
		{[][2]int{{1, 0}, {0, 20}, {300, 4000}}, 4321},
		{[][2]int{{-5, 2}, {-1, 0}}, -4},
		{[][2]int{{math.MaxInt, 1}}, math.MinInt},
		{[][2]int{{math.MaxInt, 0}, {0, 2}}, math.MinInt + 1},
		{[][2]int{{math.MinInt, math.MinInt}}, 0},
		{slices.Repeat([][2]int{{1, 2}}, 1000), 3000},
	} {
		if n := flow.Amount(flow.Serving{Racks: c.racks}); n != c.want {
			t.Errorf("%d, not %d", n, c.want)
		}
	}
	if n := flow.Amount(flow.Serving{Sources: []int{9}, Links: []int{9}, Racks: [][2]int{{1, 1}}}); n != 2 {
		t.Error("only racks count:", n)
	}
}

// ring returns a plant with a link twice, a ring, and racks with one and two feeds; its state; and a possible serving.
func ring(t *testing.T) (api.Plant, api.State, flow.Serving) {
	t.Helper()
	p := wired(4, [2]int{0, 1}, [2]int{1, 2}, [2]int{0, 2}, [2]int{1, 0})
	for i := range p.Links {
		p.Links[i].Kind, p.Links[i].Most = api.Breaker, 20
	}
	p.Sources = append(p.Sources, api.Source{Bus: 2, Kind: api.Generator, Power: 50, Ohm: 10}, api.Source{Bus: 3, Kind: api.Battery, Power: 5, Ohm: 10})
	p.Racks = []api.Rack{{Feeds: [2]int{1, 2}, Power: 40}, {Feeds: [2]int{1, -1}, Power: 10}, {Feeds: [2]int{3, 0}, Power: 8}}
	x := flow.Serving{
		Sources: []int{30, 14, 3},
		Links:   []int{12, -4, 5, -8},
		Racks:   [][2]int{{20, 15}, {4, 0}, {3, 5}},
	}
	s := start(t, p)
	if e := flow.CheckServing(p, s, x); e != api.OK {
		t.Fatal("the serving is possible:", e)
	}
	return p, s, x
}

func TestCheckServingLists(t *testing.T) {
	p, s, x := ring(t)
	for name, change := range map[string]func(x *flow.Serving){
		"sources nil":   func(x *flow.Serving) { x.Sources = nil },
		"sources empty": func(x *flow.Serving) { x.Sources = []int{} },
		"sources short": func(x *flow.Serving) { x.Sources = x.Sources[:2] },
		"sources long":  func(x *flow.Serving) { x.Sources = append(x.Sources, 0) },
		"links nil":     func(x *flow.Serving) { x.Links = nil },
		"links empty":   func(x *flow.Serving) { x.Links = []int{} },
		"links short":   func(x *flow.Serving) { x.Links = x.Links[:3] },
		"links long":    func(x *flow.Serving) { x.Links = append(x.Links, 0) },
		"racks nil":     func(x *flow.Serving) { x.Racks = nil },
		"racks empty":   func(x *flow.Serving) { x.Racks = [][2]int{} },
		"racks short":   func(x *flow.Serving) { x.Racks = x.Racks[:2] },
		"racks long":    func(x *flow.Serving) { x.Racks = append(x.Racks, [2]int{}) },
		"zero":          func(x *flow.Serving) { *x = flow.Serving{} },
	} {
		// With nothing anywhere it is only the lengths that count.
		for _, y := range []flow.Serving{copyServing(x), {Sources: make([]int, 3), Links: make([]int, 4), Racks: make([][2]int, 3)}} {
			if e := flow.CheckServing(p, s, y); e != api.OK {
				t.Error(name, "before:", e)
			}
			change(&y)
			if e := flow.CheckServing(p, s, y); e != api.ErrFlow {
				t.Error(name, e)
			}
		}
	}
	bare := api.Plant{Buses: 1}
	for _, x := range []flow.Serving{{}, {Sources: []int{}, Links: []int{}, Racks: [][2]int{}}} {
		if e := flow.CheckServing(bare, start(t, bare), x); e != api.OK {
			t.Error("nothing in a plant with nothing:", e)
		}
	}
	if e := flow.CheckServing(bare, start(t, bare), flow.Serving{Racks: [][2]int{{}}}); e != api.ErrFlow {
		t.Error("a rack that there is not:", e)
	}
}

// TestCheckServingSources changes what a source gives, and what the rack at its bus draws.
func TestCheckServingSources(t *testing.T) {
	p := api.Plant{Buses: 2, Sources: []api.Source{{Bus: 1, Kind: api.Grid, Power: 100, Ohm: 10}}, Racks: []api.Rack{{Feeds: [2]int{1, -1}, Power: 500}}}
	for _, c := range []struct {
		name   string
		power  int
		change func(s *api.State)
		e      api.Errno
	}{
		{"nothing", 0, func(s *api.State) {}, api.OK},
		{"something", 1, func(s *api.State) {}, api.OK},
		{"all", 100, func(s *api.State) {}, api.OK},
		{"more than all", 101, func(s *api.State) {}, api.ErrFlow},
		{"less than nothing", -1, func(s *api.State) {}, api.ErrFlow},
		{"nothing when off", 0, func(s *api.State) { s.On[0] = false }, api.OK},
		{"something when off", 1, func(s *api.State) { s.On[0] = false }, api.ErrFlow},
		{"nothing when failed", 0, func(s *api.State) { s.BadSource[0] = true }, api.OK},
		{"something when failed", 1, func(s *api.State) { s.BadSource[0] = true }, api.ErrFlow},
		{"nothing at a failed bus", 0, func(s *api.State) { s.BadBus[1] = true }, api.OK},
		{"something at a failed bus", 1, func(s *api.State) { s.BadBus[1] = true }, api.ErrFlow},
		{"at an earthed bus", 100, func(s *api.State) { s.Earthed[1] = true }, api.OK},
		{"with another bus failed", 100, func(s *api.State) { s.BadBus[0] = true }, api.OK},
	} {
		s := start(t, p)
		c.change(&s)
		x := flow.Serving{Sources: []int{c.power}, Racks: [][2]int{{c.power, 0}}}
		if e := flow.CheckServing(p, s, x); e != c.e {
			t.Error(c.name, e)
		}
	}
}

// TestCheckServingSourceAtFailedBus lets sources at a failed bus give to each other, so that only their own rule is broken.
func TestCheckServingSourceAtFailedBus(t *testing.T) {
	p := api.Plant{Buses: 1, Sources: []api.Source{{Kind: 1, Power: 5, Ohm: 10}, {Kind: 1, Power: 5, Ohm: 10}}}
	for _, c := range []struct {
		sources []int
		bad     bool
		e       api.Errno
	}{{[]int{0, 0}, false, api.OK}, {[]int{0, 0}, true, api.OK}, {[]int{-1, 1}, false, api.ErrFlow}, {[]int{1, -1}, true, api.ErrFlow}, {[]int{math.MinInt, math.MinInt}, false, api.ErrFlow}} {
		s := start(t, p)
		s.BadBus[0] = c.bad
		if e := flow.CheckServing(p, s, flow.Serving{Sources: c.sources}); e != c.e {
			t.Errorf("%+v: %d", c, e)
		}
	}
}

// TestCheckServingLinks lets flow around a ring of two links, so that all buses are in balance.
func TestCheckServingLinks(t *testing.T) {
	p := wired(4, [2]int{1, 2}, [2]int{1, 2})
	p.Links[0].Kind, p.Links[0].Most, p.Links[1].Kind = api.Breaker, 30, api.Breaker
	for _, c := range []struct {
		name   string
		flow   int
		change func(s *api.State)
		e      api.Errno
	}{
		{"from A to B", 30, func(s *api.State) {}, api.OK},
		{"from B to A", -30, func(s *api.State) {}, api.OK},
		{"one beyond, from A to B", 31, func(s *api.State) {}, api.ErrFlow},
		{"one beyond, from B to A", -31, func(s *api.State) {}, api.ErrFlow},
		{"nothing over a link that is open", 0, func(s *api.State) { s.Closed[0] = false }, api.OK},
		{"over a link that is open", 1, func(s *api.State) { s.Closed[0] = false }, api.ErrFlow},
		{"back over a link that is open", -1, func(s *api.State) { s.Closed[0] = false }, api.ErrFlow},
		{"over a link that has failed", 1, func(s *api.State) { s.BadLink[0] = true }, api.ErrFlow},
		{"back over a link that has failed", -1, func(s *api.State) { s.BadLink[0] = true }, api.ErrFlow},
		{"with A failed", 1, func(s *api.State) { s.BadBus[1] = true }, api.ErrFlow},
		{"with B failed", -1, func(s *api.State) { s.BadBus[2] = true }, api.ErrFlow},
		{"nothing with A failed", 0, func(s *api.State) { s.BadBus[1] = true }, api.OK},
		{"with another bus failed", 30, func(s *api.State) { s.BadBus[0] = true }, api.OK},
		{"locked and earthed", 30, func(s *api.State) { s.Locked[0], s.Earthed[1], s.Earthed[2] = true, true, true }, api.OK},
		{"the least number", math.MinInt, func(s *api.State) {}, api.ErrFlow},
		{"the greatest number", math.MaxInt, func(s *api.State) {}, api.ErrFlow},
	} {
		s := start(t, p)
		c.change(&s)
		if e := flow.CheckServing(p, s, flow.Serving{Sources: []int{0}, Links: []int{c.flow, -c.flow}}); e != c.e {
			t.Error(c.name, e)
		}
	}
	p.Links[1].A, p.Links[1].B = 2, 1
	for n, want := range map[int]api.Errno{30: api.OK, -30: api.OK, 31: api.ErrFlow, -31: api.ErrFlow} {
		if e := flow.CheckServing(p, start(t, p), flow.Serving{Sources: []int{0}, Links: []int{n, n}}); e != want {
			t.Error("with the second link turned", n, e)
		}
	}
}

// TestCheckServingRacks changes what a rack draws where there is as much as it wants.
func TestCheckServingRacks(t *testing.T) {
	p := api.Plant{Buses: 3, Racks: []api.Rack{{Feeds: [2]int{1, 2}, Power: 40, Paths: 2}, {Feeds: [2]int{2, -1}, Power: 40}}}
	for bus := range 3 {
		p.Sources = append(p.Sources, api.Source{Bus: bus, Kind: api.Grid, Power: 1000, Ohm: 10})
	}
	for _, c := range []struct {
		name          string
		first, second [2]int
		bad           []bool
		e             api.Errno
	}{
		{"nothing", [2]int{}, [2]int{}, []bool{false, false, false}, api.OK},
		{"from the first feed", [2]int{40, 0}, [2]int{}, []bool{false, false, false}, api.OK},
		{"from the second feed", [2]int{0, 40}, [2]int{}, []bool{false, false, false}, api.OK},
		{"from both", [2]int{17, 23}, [2]int{40, 0}, []bool{false, false, false}, api.OK},
		{"one more from both", [2]int{18, 23}, [2]int{}, []bool{false, false, false}, api.ErrFlow},
		{"one more from the first feed", [2]int{41, 0}, [2]int{}, []bool{false, false, false}, api.ErrFlow},
		{"one more from the second feed", [2]int{0, 41}, [2]int{}, []bool{false, false, false}, api.ErrFlow},
		{"all from each", [2]int{40, 40}, [2]int{}, []bool{false, false, false}, api.ErrFlow},
		{"below 0 from the first feed", [2]int{-1, 40}, [2]int{}, []bool{false, false, false}, api.ErrFlow},
		{"below 0 from the second feed", [2]int{40, -1}, [2]int{40, 0}, []bool{false, false, false}, api.ErrFlow},
		{"from no feed", [2]int{}, [2]int{0, 1}, []bool{false, false, false}, api.ErrFlow},
		{"below 0 from no feed", [2]int{}, [2]int{0, -1}, []bool{false, false, false}, api.ErrFlow},
		{"all from one feed", [2]int{}, [2]int{40, 0}, []bool{false, false, false}, api.OK},
		{"one more from one feed", [2]int{}, [2]int{41, 0}, []bool{false, false, false}, api.ErrFlow},
		{"the other feed failed", [2]int{40, 0}, [2]int{}, []bool{false, false, true}, api.OK},
		{"from a first feed that has failed", [2]int{1, 0}, [2]int{}, []bool{false, true, false}, api.ErrFlow},
		{"from a second feed that has failed", [2]int{0, 1}, [2]int{}, []bool{false, false, true}, api.ErrFlow},
		{"the first feed failed", [2]int{0, 40}, [2]int{40, 0}, []bool{false, true, false}, api.OK},
		{"another bus failed", [2]int{40, 0}, [2]int{40, 0}, []bool{true, false, false}, api.OK},
	} {
		s := start(t, p)
		s.BadBus = c.bad
		give := func(n int, bus int) int {
			if c.bad[bus] {
				return 0
			}
			return max(n, 0)
		}
		x := flow.Serving{Sources: []int{0, give(c.first[0], 1), give(c.first[1]+c.second[0], 2)}, Racks: [][2]int{c.first, c.second}}
		if e := flow.CheckServing(p, s, x); e != c.e {
			t.Error(c.name, e)
		}
	}
}

// TestCheckServingOwnRules breaks the rules of racks alone: two racks in balance with each other, or draws that no balance counts.
func TestCheckServingOwnRules(t *testing.T) {
	p := api.Plant{Buses: 2, Racks: slices.Repeat([]api.Rack{{Feeds: [2]int{0, 1}, Power: 40}}, 4)}
	p.Racks = append(p.Racks, api.Rack{Feeds: [2]int{0, -1}, Power: 40})
	s := start(t, p)
	for _, c := range []struct {
		racks [][2]int
		e     api.Errno
	}{
		{[][2]int{{}, {}, {}, {}, {}}, api.OK},
		{[][2]int{{1, 0}, {-1, 0}, {}, {}, {}}, api.ErrFlow},
		{[][2]int{{0, 1}, {0, -1}, {}, {}, {}}, api.ErrFlow},
		{[][2]int{{}, {}, {}, {}, {0, 1}}, api.ErrFlow},
		{[][2]int{{}, {}, {}, {}, {0, -1}}, api.ErrFlow},
		// Sums that wrap around.
		{slices.Concat(slices.Repeat([][2]int{{1 << 62, 1 << 62}}, 4), [][2]int{{}}), api.ErrFlow},
		{[][2]int{{math.MinInt, 0}, {math.MinInt, 0}, {}, {}, {}}, api.ErrFlow},
	} {
		if e := flow.CheckServing(p, s, flow.Serving{Racks: c.racks}); e != c.e {
			t.Error(c.racks, e)
		}
	}
}

// TestCheckServingBalance changes each number of a possible serving by one: some bus is not in balance then.
func TestCheckServingBalance(t *testing.T) {
	p, s, x := ring(t)
	numbers := func(y *flow.Serving) []*int {
		var l []*int
		for i := range y.Sources {
			l = append(l, &y.Sources[i])
		}
		for i := range y.Links {
			l = append(l, &y.Links[i])
		}
		for i := range y.Racks {
			l = append(l, &y.Racks[i][0], &y.Racks[i][1])
		}
		return l
	}
	for i := range numbers(&x) {
		for _, more := range []int{1, -1, 3} {
			y := copyServing(x)
			*numbers(&y)[i] += more
			if e := flow.CheckServing(p, s, y); e != api.ErrFlow {
				t.Error("number", i, more, e)
			}
		}
	}
	y := copyServing(x)
	for i, n := range []int{2, 2, -2, 0} { // more flows around the ring 0 1 2
		y.Links[i] += n
	}
	if e := flow.CheckServing(p, s, y); e != api.OK {
		t.Error("around the ring:", e)
	}
	y = copyServing(x)
	y.Racks[0][0]--
	y.Racks[1][0]++
	if e := flow.CheckServing(p, s, y); e != api.OK {
		t.Error("another rack of the same bus:", e)
	}
	if e := flow.CheckServing(p, s, flow.Serving{Sources: make([]int, 3), Links: make([]int, 4), Racks: make([][2]int, 3)}); e != api.OK {
		t.Error("nothing is possible:", e)
	}
}

func TestCheckServingErrors(t *testing.T) {
	p, s, x := ring(t)
	short := copyState(s)
	short.Earthed = short.Earthed[:1]
	for _, y := range []flow.Serving{x, {}} {
		if e := flow.CheckServing(p, short, y); e != api.ErrState {
			t.Error("the error of the state comes first", e)
		}
	}
	for i, change := range []func(p *api.Plant){
		func(p *api.Plant) { p.Buses = 0 }, func(p *api.Plant) { p.Sources[0].Power = 100001 }, func(p *api.Plant) { p.Links[0].Most = 0 }, func(p *api.Plant) { p.Racks[0].Power = 0 },
	} {
		p, _, _ := ring(t)
		change(&p)
		if e := flow.CheckServing(p, short, flow.Serving{}); e != api.ErrBus+api.Errno(i) {
			t.Error("the error of the plant comes first", i, e)
		}
	}
}

// isPossible reports whether a serving with all its numbers is possible, by the chapter's words; its numbers are small.
func isPossible(p api.Plant, s api.State, x flow.Serving) bool {
	left := make([]int, p.Buses)
	for i, n := range x.Sources {
		if n < 0 || n > p.Sources[i].Power || n != 0 && !feeds(p, s, i) {
			return false
		}
		left[p.Sources[i].Bus] += n
	}
	for i, n := range x.Links {
		if n < -p.Links[i].Most || n > p.Links[i].Most || n != 0 && !conducts(p, s, i) {
			return false
		}
		left[p.Links[i].A] -= n
		left[p.Links[i].B] += n
	}
	for i, draws := range x.Racks {
		if draws[0]+draws[1] > p.Racks[i].Power {
			return false
		}
		for feed, n := range draws {
			bus := p.Racks[i].Feeds[feed]
			if n < 0 || n > 0 && (bus == -1 || s.BadBus[bus]) {
				return false
			}
			if bus != -1 {
				left[bus] -= n
			}
		}
	}
	return !slices.ContainsFunc(left, func(n int) bool { return n != 0 })
}

// TestCheckServingRandom compares with the chapter's words, with servings that are nearly possible.
func TestCheckServingRandom(t *testing.T) {
	r := rand.New(rand.NewPCG(5, 6))
	count := 0
	for range 3000 {
		p := randomPlant(r, from(r, 2, 4))
		s := randomState(r, t, p)
		x, _, e := flow.Serve(p, s)
		if e != api.OK || len(p.Links) == 0 || len(p.Sources) == 0 || len(p.Racks) == 0 {
			continue
		}
		for range 20 {
			y := copyServing(x)
			n := from(r, -2, 2)
			y.Links[r.IntN(len(y.Links))] += n
			y.Links[r.IntN(len(y.Links))] += from(r, -1, 1) * n
			y.Sources[r.IntN(len(y.Sources))] += from(r, -1, 1) * n
			y.Racks[r.IntN(len(y.Racks))][r.IntN(2)] += from(r, -1, 1) * n
			want := api.ErrFlow
			if isPossible(p, s, y) {
				want = api.OK
				count++
			}
			if e := flow.CheckServing(p, s, y); e != want {
				t.Fatalf("%+v %+v %+v: %d, not %d", p, s, y, e, want)
			}
		}
	}
	if count < 1000 {
		t.Error("too few servings are possible:", count)
	}
}
