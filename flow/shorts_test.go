package flow_test

import (
	"cmp"
	"math"
	"math/rand/v2"
	"slices"
	"testing"

	"switchgear/api"
	"switchgear/flow"
)

// has checks the currents of a short circuit.
func has(t *testing.T, name string, p api.Plant, s api.State, bus int, want ...flow.Short) {
	t.Helper()
	if l, e := flow.Shorts(p, s, bus); e != api.OK || !slices.EqualFunc(l, want, sameShort) {
		t.Errorf("%s: %v %d, not %v", name, l, e, want)
	}
}

func TestChapterShorts(t *testing.T) {
	p := chapter(100)
	s := start(t, p)
	has(t, "third example", p, s, 1, flow.Short{Source: 0, Ohm: 30, Amps: 13334, Links: []int{0}}, flow.Short{Source: 1, Ohm: 50, Amps: 8000, Links: []int{1}})
	has(t, "bus 0", p, s, 0, flow.Short{Source: 0, Ohm: 20, Amps: 20000}, flow.Short{Source: 1, Ohm: 60, Amps: 6667, Links: []int{1, 0}})
	has(t, "bus 2", p, s, 2, flow.Short{Source: 0, Ohm: 40, Amps: 10000, Links: []int{0, 1}}, flow.Short{Source: 1, Ohm: 40, Amps: 10000})
}

func TestShortsStates(t *testing.T) {
	first := flow.Short{Source: 0, Ohm: 30, Amps: 13334, Links: []int{0}}
	second := flow.Short{Source: 1, Ohm: 50, Amps: 8000, Links: []int{1}}
	for _, c := range []struct {
		name   string
		change func(s *api.State)
		want   []flow.Short
	}{
		{"locked and earthed", func(s *api.State) { s.Locked[0], s.Earthed[1] = true, true }, []flow.Short{first, second}},
		{"a source off", func(s *api.State) { s.On[0] = false }, []flow.Short{second}},
		{"a source failed", func(s *api.State) { s.BadSource[1] = true }, []flow.Short{first}},
		{"a link open", func(s *api.State) { s.Closed[0] = false }, []flow.Short{second}},
		{"a link failed", func(s *api.State) { s.BadLink[1] = true }, []flow.Short{first}},
		{"the bus of a source failed", func(s *api.State) { s.BadBus[0] = true }, []flow.Short{second}},
		{"the bus failed", func(s *api.State) { s.BadBus[1] = true }, nil},
		{"no source", func(s *api.State) { s.On = []bool{false, false} }, nil},
		{"both links open", func(s *api.State) { s.Closed = []bool{false, false} }, nil},
	} {
		p := chapter()
		s := start(t, p)
		c.change(&s)
		has(t, c.name, p, s, 1, c.want...)
	}
	p := chapter()
	s := start(t, p)
	s.BadBus[1] = true
	has(t, "beyond a failed bus", p, s, 2, flow.Short{Source: 1, Ohm: 40, Amps: 10000})
	s.BadBus[2] = true
	has(t, "the bus of a source", p, s, 2)
}

// TestShortWays tries ways of which several would do.
func TestShortWays(t *testing.T) {
	for _, c := range []struct {
		name  string
		buses int
		ends  [][2]int
		ohms  map[int]int
		bus   int
		ohm   int
		links []int
	}{
		{"no link", 1, nil, nil, 0, 10, nil},
		{"at the source, with a ring", 3, [][2]int{{0, 1}, {1, 2}, {2, 0}}, nil, 0, 10, nil},
		{"less resistance, more links", 3, [][2]int{{0, 2}, {0, 1}, {1, 2}}, map[int]int{0: 21}, 2, 30, []int{1, 2}},
		{"the same resistance, fewer links", 3, [][2]int{{0, 1}, {1, 2}, {0, 2}}, map[int]int{2: 20}, 2, 30, []int{2}},
		{"the same resistance, fewer links, met first", 3, [][2]int{{0, 2}, {0, 1}, {1, 2}}, map[int]int{0: 20}, 2, 30, []int{0}},
		{"the same resistance, fewer links later", 4, [][2]int{{0, 1}, {1, 2}, {2, 3}, {0, 3}}, map[int]int{3: 30}, 3, 40, []int{3}},
		{"parallel links", 2, [][2]int{{0, 1}, {1, 0}, {0, 1}}, nil, 1, 20, []int{0}},
		{"parallel links, the last one better", 2, [][2]int{{0, 1}, {1, 0}, {0, 1}}, map[int]int{0: 12, 1: 11}, 1, 20, []int{2}},
		{"the first link decides", 4, [][2]int{{0, 1}, {0, 2}, {2, 3}, {1, 3}}, nil, 3, 30, []int{0, 3}},
		{"the first link decides, not the last one", 4, [][2]int{{1, 3}, {0, 2}, {2, 3}, {0, 1}}, nil, 3, 30, []int{1, 2}},
		{"the second link decides", 3, [][2]int{{1, 2}, {0, 1}, {1, 2}}, nil, 2, 30, []int{1, 0}},
		{"a lesser bus does not decide", 4, [][2]int{{0, 2}, {2, 3}, {0, 1}, {1, 3}}, nil, 3, 30, []int{0, 1}},
		{"2 is less than 10", 4, [][2]int{{1, 0}, {2, 0}, {0, 2}, {1, 3}, {1, 3}, {1, 3}, {1, 3}, {1, 3}, {1, 3}, {1, 3}, {0, 1}, {2, 3}}, map[int]int{0: 99, 1: 99}, 3, 30, []int{2, 11}},
		{"turned links", 4, [][2]int{{3, 2}, {2, 1}, {1, 0}}, nil, 3, 40, []int{2, 1, 0}},
		{"a lesser list with more resistance", 3, [][2]int{{0, 1}, {0, 1}, {1, 2}}, map[int]int{0: 11}, 2, 30, []int{1, 2}},
		{"a shorter way is found late", 5, [][2]int{{0, 4}, {4, 3}, {0, 1}, {1, 2}, {2, 4}}, map[int]int{0: 41}, 3, 50, []int{2, 3, 4, 1}},
	} {
		p := wired(c.buses, c.ends...)
		for link, ohm := range c.ohms {
			p.Links[link].Ohm = ohm
		}
		has(t, c.name, p, start(t, p), c.bus, flow.Short{Ohm: c.ohm, Amps: (400000 + c.ohm - 1) / c.ohm, Links: c.links})
	}
}

// TestShortsAtLimits has the least resistance, the greatest one, and numbers around one that divides.
func TestShortsAtLimits(t *testing.T) {
	for _, c := range []struct{ ohm, amps int }{{10, 40000}, {11, 36364}, {16, 25000}, {17, 23530}, {64, 6250}, {63, 6350}, {65, 6154}, {99999, 5}, {100000, 4}} {
		p := api.Plant{Buses: 1, Sources: []api.Source{{Kind: api.Grid, Power: 1, Ohm: c.ohm}}}
		has(t, "a source", p, start(t, p), 0, flow.Short{Ohm: c.ohm, Amps: c.amps})
	}
	p := api.Plant{Buses: 24, Sources: []api.Source{{Kind: api.Grid, Power: 1, Ohm: 100000}}}
	var links []int
	for i := range 23 {
		p.Links = append(p.Links, api.Link{A: i, B: i + 1, Kind: api.Cable, Most: 1, Ohm: 100000})
		links = append(links, i)
	}
	has(t, "a long chain", p, start(t, p), 23, flow.Short{Ohm: 2400000, Amps: 1, Links: links})
	p.Links[0].Ohm = 50000
	has(t, "a fourth of an ampere", p, start(t, p), 3, flow.Short{Ohm: 350000, Amps: 2, Links: links[:3]})
	has(t, "exactly", p, start(t, p), 1, flow.Short{Ohm: 150000, Amps: 3, Links: links[:1]})
	p = api.Plant{Buses: 1, Sources: slices.Repeat([]api.Source{{Kind: api.Battery, Power: 1, Ohm: 10}}, 8)}
	var want []flow.Short
	for i := range 8 {
		want = append(want, flow.Short{Source: i, Ohm: 10, Amps: 40000})
	}
	has(t, "8 sources", p, start(t, p), 0, want...)
}

func TestShortsErrors(t *testing.T) {
	p := chapter(100)
	s := start(t, p)
	for _, bus := range []int{-1, 3, 24, math.MinInt, math.MaxInt} {
		if l, e := flow.Shorts(p, s, bus); e != api.ErrArg || len(l) != 0 {
			t.Error(bus, l, e)
		}
		if l, e := flow.Shorts(p, api.State{}, bus); e != api.ErrState || len(l) != 0 {
			t.Error("the error of the state comes first", bus, l, e)
		}
		if l, e := flow.Shorts(api.Plant{}, api.State{}, bus); e != api.ErrBus || len(l) != 0 {
			t.Error("the error of the plant comes first", bus, l, e)
		}
	}
	s.BadBus = []bool{true, true, true}
	if l, e := flow.Shorts(p, s, 3); e != api.ErrArg || len(l) != 0 {
		t.Error("no such bus, with all failed", l, e)
	}
}

// allWays calls what with each way between two buses, and its resistance.
func allWays(p api.Plant, s api.State, at, bus int, what func(ohm int, links []int)) {
	met := make([]bool, p.Buses)
	var walk func(at, ohm int, links []int)
	walk = func(at, ohm int, links []int) {
		if at == bus {
			what(ohm, slices.Clone(links))
			return
		}
		met[at] = true
		for i, x := range p.Links {
			for _, y := range [][2]int{{x.A, x.B}, {x.B, x.A}} {
				if conducts(p, s, i) && y[0] == at && !met[y[1]] {
					walk(y[1], ohm+x.Ohm, append(links, i))
				}
			}
		}
		met[at] = false
	}
	if !s.BadBus[at] {
		walk(at, 0, nil)
	}
}

// TestShortsAllWays compares with all ways of small plants, many of which have the same resistance.
func TestShortsAllWays(t *testing.T) {
	r := rand.New(rand.NewPCG(11, 12))
	ties := 0
	for range 2000 {
		p := randomPlant(r, from(r, 1, 6))
		s := randomState(r, t, p)
		for bus := range p.Buses {
			var want []flow.Short
			for i, x := range p.Sources {
				best := flow.Short{Source: i, Ohm: math.MaxInt}
				allWays(p, s, x.Bus, bus, func(ohm int, links []int) {
					ohm += x.Ohm
					if ohm == best.Ohm {
						ties++
					}
					if cmp.Or(cmp.Compare(ohm, best.Ohm), cmp.Compare(len(links), len(best.Links)), slices.Compare(links, best.Links)) < 0 {
						best = flow.Short{Source: i, Ohm: ohm, Amps: 400000 / ohm, Links: links}
					}
				})
				if best.Ohm == math.MaxInt || !feeds(p, s, i) {
					continue
				}
				if 400000%best.Ohm != 0 {
					best.Amps++
				}
				want = append(want, best)
			}
			has(t, "random", p, s, bus, want...)
			if t.Failed() {
				t.Fatalf("%+v %+v %d", p, s, bus)
			}
		}
	}
	if ties < 1000 {
		t.Error("too few ways have the same resistance:", ties)
	}
}

func TestThrough(t *testing.T) {
	p := wired(3, [2]int{0, 1}, [2]int{1, 2}, [2]int{0, 2})
	for _, c := range []struct {
		name string
		l    []flow.Short
		want []int
	}{
		{"nil", nil, []int{0, 0, 0}},
		{"empty", []flow.Short{}, []int{0, 0, 0}},
		{"one", []flow.Short{{Amps: 5, Links: []int{0, 1}}}, []int{5, 5, 0}},
		{"none of the links", []flow.Short{{Amps: 5}, {Amps: 7, Links: []int{}}}, []int{0, 0, 0}},
		{"two", []flow.Short{{Amps: 5, Links: []int{1, 0}}, {Source: 1, Amps: 70, Links: []int{1, 2}}}, []int{5, 75, 70}},
		{"twice the same one", []flow.Short{{Amps: 5, Links: []int{2}}, {Amps: 5, Links: []int{2}}}, []int{0, 0, 10}},
		{"a link more than once", []flow.Short{{Amps: 5, Links: []int{2, 0, 2, 2, 0}}, {Amps: 1, Links: []int{0}}}, []int{6, 0, 5}},
		{"sources and ohms that there are not", []flow.Short{{Source: -9, Ohm: -9, Amps: 5, Links: []int{0}}, {Source: 99, Ohm: math.MaxInt, Amps: 6, Links: []int{1}}}, []int{5, 6, 0}},
		{"no current", []flow.Short{{Amps: 0, Links: []int{0, 1, 2}}}, []int{0, 0, 0}},
		{"the greatest current", slices.Repeat([]flow.Short{{Amps: 1000000, Links: []int{1}}}, 8), []int{0, 8000000, 0}},
		{"a long list", []flow.Short{{Amps: 3, Links: slices.Repeat([]int{0, 2}, 5000)}}, []int{3, 0, 3}},
	} {
		if l, e := flow.Through(p, c.l); e != api.OK || !slices.Equal(l, c.want) {
			t.Error(c.name, l, e)
		}
	}
	bare := api.Plant{Buses: 1}
	if l, e := flow.Through(bare, []flow.Short{{Amps: 5}}); e != api.OK || len(l) != 0 {
		t.Error("no links", l, e)
	}
}

func TestThroughErrors(t *testing.T) {
	p := wired(3, [2]int{0, 1}, [2]int{1, 2}, [2]int{0, 2})
	right := flow.Short{Amps: 5, Links: []int{0, 2}}
	wrong := map[string][]flow.Short{
		"amps below 0":            {{Amps: -1, Links: []int{0}}},
		"the least amps":          {{Amps: math.MinInt}},
		"too many amps":           {{Amps: 1000001, Links: []int{0}}},
		"the most amps":           {{Amps: math.MaxInt}},
		"a link below 0":          {{Amps: 5, Links: []int{-1}}},
		"the least link":          {{Amps: 5, Links: []int{math.MinInt}}},
		"a link too many":         {{Amps: 5, Links: []int{3}}},
		"the greatest link":       {{Amps: 5, Links: []int{math.MaxInt}}},
		"a wrong last link":       {{Amps: 5, Links: []int{0, 1, 2, 3}}},
		"a wrong link, no amps":   {{Amps: 0, Links: []int{3}}},
		"a wrong last one":        {right, right, {Amps: -1}},
		"a wrong link in the end": {right, {Amps: 1, Links: []int{0, -1}}},
		"9":                       slices.Repeat([]flow.Short{right}, 9),
		"many without links":      make([]flow.Short, 100),
	}
	for name, l := range wrong {
		if list, e := flow.Through(p, l); e != api.ErrArg || len(list) != 0 {
			t.Error(name, list, e)
		}
		for i, change := range []func(p *api.Plant){
			func(p *api.Plant) { p.Buses = 25 }, func(p *api.Plant) { p.Sources[0].Sync = 9 }, func(p *api.Plant) { p.Links[2].B = 0 }, func(p *api.Plant) { p.Racks = make([]api.Rack, 1) },
		} {
			q := wired(3, [2]int{0, 1}, [2]int{1, 2}, [2]int{0, 2})
			change(&q)
			if list, e := flow.Through(q, l); e != api.ErrBus+api.Errno(i) || len(list) != 0 {
				t.Error(name, "the error of the plant comes first", list, e)
			}
		}
	}
	if l, e := flow.Through(p, slices.Repeat([]flow.Short{right}, 8)); e != api.OK || !slices.Equal(l, []int{40, 0, 40}) {
		t.Error("8", l, e)
	}
	bare := api.Plant{Buses: 1}
	if l, e := flow.Through(bare, []flow.Short{{Links: []int{0}}}); e != api.ErrArg || len(l) != 0 {
		t.Error("no links", l, e)
	}
}

// TestThroughShorts adds up the currents of short circuits.
func TestThroughShorts(t *testing.T) {
	p := chapter()
	s := start(t, p)
	for bus, want := range [][]int{{6667, 6667}, {13334, 8000}, {10000, 10000}} {
		l, e := flow.Shorts(p, s, bus)
		sums, f := flow.Through(p, l)
		if e != api.OK || f != api.OK || !slices.Equal(sums, want) {
			t.Error(bus, sums, e, f)
		}
	}
}
