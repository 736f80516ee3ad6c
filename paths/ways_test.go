package paths_test

import (
	"math/rand/v2"
	"slices"
	"testing"

	"switchgear/api"
	"switchgear/paths"
)

// allWays returns all ways of a rack, by trying all parts one after the other.
func allWays(p api.Plant, s api.State, rack int) [][]api.Part {
	var all [][]api.Part
	var goOn func(way []api.Part, at int)
	goOn = func(way []api.Part, at int) {
		if s.BadBus[at] || slices.Contains(way, bus(at)) {
			return
		}
		way = append(slices.Clone(way), bus(at))
		if slices.Contains(p.Racks[rack].Feeds[:], at) {
			all = append(all, slices.Clone(way))
		}
		for i, x := range p.Links {
			if !s.Closed[i] || s.BadLink[i] {
				continue
			}
			if x.A == at {
				goOn(append(slices.Clone(way), link(i)), x.B)
			}
			if x.B == at {
				goOn(append(slices.Clone(way), link(i)), x.A)
			}
		}
	}
	for i, x := range p.Sources {
		if s.On[i] && !s.BadSource[i] {
			goOn([]api.Part{source(i)}, x.Bus)
		}
	}
	return all
}

// disjoint reports whether two ways have no part in common.
func disjoint(a, b []api.Part) bool {
	return !slices.ContainsFunc(a, func(x api.Part) bool { return slices.Contains(b, x) })
}

// strengthBy returns the strength that ways give if they are all that there are.
func strengthBy(all [][]api.Part) int {
	for _, a := range all {
		for _, b := range all {
			if disjoint(a, b) {
				return 2
			}
		}
	}
	return min(len(all), 1)
}

// hasStrength checks what Strength and Ways return for a rack.
func hasStrength(t *testing.T, name string, p api.Plant, s api.State, rack, want int) {
	t.Helper()
	if n, e := paths.Strength(p, s, rack); n != want || e != api.OK {
		t.Errorf("%s: strength %d, error %d, wanted %d", name, n, e, want)
	}
	l, e := paths.Ways(p, s, rack)
	all := allWays(p, s, rack)
	unknown := func(way []api.Part) bool {
		return !slices.ContainsFunc(all, func(x []api.Part) bool { return slices.Equal(x, way) })
	}
	if len(l) != want || e != api.OK || slices.ContainsFunc(l, unknown) || want == 2 && !disjoint(l[0], l[1]) {
		t.Errorf("%s: ways %v, error %d, wanted %d of %v", name, l, e, want, all)
	}
	if e := paths.CheckWays(p, s, rack, l); e != api.OK {
		t.Errorf("%s: CheckWays does not accept what Ways returns: %d, %v", name, e, l)
	}
}

func TestChapterStrength(t *testing.T) {
	p, s := parsed(t, chapter, 2)
	hasStrength(t, "both breakers closed", p, s, 0, 2)
	l, _ := paths.Ways(p, s, 0)
	if !slices.ContainsFunc(l, func(way []api.Part) bool {
		return slices.Equal(way, []api.Part{source(1), bus(1), link(1), bus(3)})
	}) {
		t.Error(l)
	}
	p, s = parsed(t, chapter, 1, 2)
	hasStrength(t, "the second one open", p, s, 0, 1)
	p, s = parsed(t, chapter, 1)
	hasStrength(t, "both feeds by one grid", p, s, 0, 1)
	p, s = parsed(t, chapter, 0, 1)
	hasStrength(t, "no way", p, s, 0, 0)
}

func TestStrength(t *testing.T) {
	const oneFeed = "plant 4\nsource 0 grid 5 0 20\nsource 1 grid 5 0 20\nlink 0 2 breaker 4 10\nlink 1 2 breaker 4 10\nlink 2 3 cable 4 10\nlink 2 3 cable 4 10\nrack 3 -1 1 1\nrack 2 -1 1 1\nrack 1 2 1 2\nrack 2 3 1 2\n"
	p, s := parsed(t, oneFeed)
	hasStrength(t, "one feed has one way, whatever leads there", p, s, 0, 1)
	hasStrength(t, "one feed with two links to grids", p, s, 1, 1)
	hasStrength(t, "a source at one of the feeds", p, s, 2, 2)
	hasStrength(t, "all ways to the one feed pass the other one", p, s, 3, 1)
	const own = "plant 3\nsource 0 grid 5 0 20\nsource 0 generator 5 0 20\nsource 1 battery 5 0 20\nlink 1 2 cable 4 10\nrack 0 1 1 2\nrack 0 -1 1 1\nrack 0 2 1 2\n"
	p, s = parsed(t, own)
	hasStrength(t, "a source at each feed", p, s, 0, 2)
	hasStrength(t, "two sources at the only feed", p, s, 1, 1)
	hasStrength(t, "a way without a link and one with", p, s, 2, 2)
	s.On[2] = false
	hasStrength(t, "two sources at one of two feeds", p, s, 0, 1)
	s.On[0] = false
	hasStrength(t, "the second source at a bus", p, s, 0, 1)
	s.BadSource[1] = true
	hasStrength(t, "no source that feeds", p, s, 0, 0)
	const shared = "plant 5\nsource 0 grid 5 0 20\nsource 1 grid 5 0 20\nlink 0 2 breaker 4 10\nlink 1 2 breaker 4 10\nlink 2 3 breaker 4 10\nlink 2 4 breaker 4 10\nrack 3 4 1 2\n"
	p, s = parsed(t, shared)
	hasStrength(t, "two grids and two feeds, and all ways over one bus", p, s, 0, 1)
	const oneSource = "plant 3\nsource 0 grid 5 0 20\nlink 0 1 breaker 4 10\nlink 0 2 breaker 4 10\nrack 1 2 1 2\n"
	p, s = parsed(t, oneSource)
	hasStrength(t, "one source", p, s, 0, 1)
	p.Sources = append(p.Sources, p.Sources[0])
	hasStrength(t, "two sources at one bus", p, start(t, p), 0, 1)
}

// TestStrengthGivesBack has plants in which the ways to be found cross others that are shorter or come first.
func TestStrengthGivesBack(t *testing.T) {
	const crossed = "plant 6\nsource 0 grid 5 0 20\nsource 1 grid 5 0 20\nlink 0 2 breaker 4 10\nlink 2 3 breaker 4 10\nlink 3 5 breaker 4 10\nlink 2 4 breaker 4 10\nlink 1 3 breaker 4 10\nrack 4 5 1 2\n"
	p, s := parsed(t, crossed)
	hasStrength(t, "from 0 over 2 and 3, or from 1 over 3 and 2", p, s, 0, 2)
	// The only short way is that from the first source to the second feed: 0 2 3 1.
	const long = "plant 12\nsource 0 grid 5 0 20\nsource 11 grid 5 0 20\nlink 0 2 breaker 4 10\nlink 2 3 breaker 4 10\nlink 3 1 breaker 4 10\nlink 2 4 breaker 4 10\nlink 4 5 breaker 4 10\nlink 5 6 breaker 4 10\nlink 6 7 breaker 4 10\nlink 11 10 breaker 4 10\nlink 10 9 breaker 4 10\nlink 9 8 breaker 4 10\nlink 8 3 breaker 4 10\nrack 7 1 1 2\n"
	p, s = parsed(t, long)
	hasStrength(t, "two long ways", p, s, 0, 2)
	l, e := paths.Ways(p, s, 0)
	want := [][]api.Part{
		{source(1), bus(11), link(7), bus(10), link(8), bus(9), link(9), bus(8), link(10), bus(3), link(2), bus(1)},
		{source(0), bus(0), link(0), bus(2), link(3), bus(4), link(4), bus(5), link(5), bus(6), link(6), bus(7)},
	}
	if e != api.OK || !sameLists(l, want) && !sameLists(l, [][]api.Part{want[1], want[0]}) {
		t.Error(l, e)
	}
	s.Closed[1] = false
	hasStrength(t, "without the link where they cross", p, s, 0, 2)
	s.Closed[1], s.BadBus[4] = true, true
	hasStrength(t, "a bus of the first way has failed", p, s, 0, 1)
}

// TestStrengthOfRandomPlants compares with all ways that there are.
func TestStrengthOfRandomPlants(t *testing.T) {
	r := rand.New(rand.NewPCG(5, 1))
	var met [3]int
	for range 3000 {
		p := randomPlant(r)
		s := randomState(r, t, p, 90)
		for rack := range p.Racks {
			want := strengthBy(allWays(p, s, rack))
			met[want]++
			hasStrength(t, "random", p, s, rack, want)
		}
		if t.Failed() {
			t.Fatalf("%+v %+v", p, s)
		}
	}
	if slices.Min(met[:]) < 200 {
		t.Error("strengths met:", met)
	}
}

func TestCheckWays(t *testing.T) {
	p, s := parsed(t, chapter)
	first, second := []api.Part{source(0), bus(0), link(0), bus(2)}, []api.Part{source(1), bus(1), link(1), bus(3)}
	around := []api.Part{source(0), bus(0), link(0), bus(2), link(2), bus(3)}
	for i, l := range [][][]api.Part{nil, {}, {first}, {second}, {first, second}, {second, first}, {around}} {
		if e := paths.CheckWays(p, s, 0, l); e != api.OK {
			t.Error(i, l, e)
		}
	}
	for i, l := range [][][]api.Part{{first, first}, {first, second, first}, {around, first}, {around, second}, {second, around}} {
		if e := paths.CheckWays(p, s, 0, l); e != api.ErrFalse {
			t.Error("not disjoint:", i, l, e)
		}
	}
	for _, c := range []struct {
		name string
		way  []api.Part
	}{
		{"nothing", nil},
		{"no bus", first[:1]},
		{"a source that is none of the plant", []api.Part{source(2), bus(2)}},
		{"a source below 0", []api.Part{source(-1), bus(2)}},
		{"a link that is none of the plant", []api.Part{source(0), bus(0), link(3), bus(2)}},
		{"a bus that is none of the plant", []api.Part{source(0), bus(4), link(0), bus(2)}},
		{"a kind that is none", []api.Part{{Kind: 4}, bus(0), link(0), bus(2)}},
		{"zero parts", make([]api.Part, 4)},
		{"begins with the bus", first[1:]},
		{"begins with a link", []api.Part{link(0), bus(2)}},
		{"begins with a bus, in pairs", []api.Part{bus(0), bus(0), link(0), bus(2)}},
		{"the end before the first bus", first[:2]},
		{"ends with a link", first[:3]},
		{"ends with a link behind a feed", append(slices.Clone(first), link(2))},
		{"not the bus of the source", []api.Part{source(0), bus(1), link(1), bus(3)}},
		{"not an end of the link", []api.Part{source(0), bus(0), link(1), bus(3)}},
		{"not the other end of the link", []api.Part{source(0), bus(0), link(0), bus(3)}},
		{"the same end of the link", []api.Part{source(0), bus(0), link(0), bus(0), link(0), bus(2)}},
		{"a bus twice", []api.Part{source(0), bus(0), link(0), bus(2), link(2), bus(3), link(2), bus(2)}},
		{"around to where it began", []api.Part{source(0), bus(0), link(0), bus(2), link(0), bus(0), link(0), bus(2)}},
		{"two sources", []api.Part{source(0), bus(0), source(1), bus(1), link(1), bus(3)}},
		{"a bus and no link", []api.Part{source(0), bus(0), bus(0), bus(2)}},
		{"two links", []api.Part{source(0), bus(0), link(0), link(2)}},
		{"two links before the bus", []api.Part{source(0), bus(0), link(0), link(2), bus(2), bus(3)}},
		{"backward", []api.Part{bus(2), link(0), bus(0), source(0)}},
	} {
		for i, l := range [][][]api.Part{{c.way}, {second, c.way}, {c.way, second}} {
			if e := paths.CheckWays(p, s, 0, l); e != api.ErrFalse {
				t.Error(c.name, i, e)
			}
		}
	}
}

// TestCheckWaysOfStates checks ways whose parts have failed, are open or off.
func TestCheckWaysOfStates(t *testing.T) {
	p, s := parsed(t, chapter)
	way := []api.Part{source(0), bus(0), link(0), bus(2), link(2), bus(3)}
	for i, change := range []func(s *api.State){
		func(s *api.State) { s.On[0] = false },
		func(s *api.State) { s.Closed[0] = false },
		func(s *api.State) { s.Closed[2] = false },
	} {
		if e := paths.CheckWays(p, changed(s, change), 0, [][]api.Part{way}); e != api.ErrFalse {
			t.Error("off or open", i, e)
		}
	}
	for _, x := range wholeParts(s) {
		e := paths.CheckWays(p, broken(s, x), 0, [][]api.Part{way})
		if on := slices.Contains(way, x); on && e != api.ErrFalse || !on && e != api.OK {
			t.Error("failed", x, e)
		}
	}
	s.Earthed[2], s.Locked[0] = true, true
	if e := paths.CheckWays(p, s, 0, [][]api.Part{way}); e != api.OK {
		t.Error("earthed and locked parts conduct", e)
	}
	p.Racks = append(p.Racks, api.Rack{Feeds: [2]int{3, -1}, Power: 1}, api.Rack{Feeds: [2]int{2, -1}, Power: 1})
	for rack, want := range []api.Errno{api.OK, api.OK, api.ErrFalse} {
		if e := paths.CheckWays(p, s, rack, [][]api.Part{way}); e != want {
			t.Error("rack", rack, e)
		}
	}
	if e := paths.CheckWays(p, s, 1, [][]api.Part{nil}); e != api.ErrFalse {
		t.Error("no bus is not the feed that there is not", e)
	}
}

// TestCheckWaysOfRandomPlants checks ways after small changes, and compares with all ways that there are.
func TestCheckWaysOfRandomPlants(t *testing.T) {
	r := rand.New(rand.NewPCG(5, 2))
	right, wrong := 0, 0
	for range 4000 {
		p := randomPlant(r)
		s := randomState(r, t, p, 90)
		all := allWays(p, s, 0)
		if len(all) == 0 {
			continue
		}
		way := slices.Clone(all[r.IntN(len(all))])
		for range r.IntN(3) {
			switch at := r.IntN(len(way)); r.IntN(4) {
			case 0:
				way[at].Index = r.IntN(8) - 1
			case 1:
				way[at].Kind = api.PartKind(from(r, 0, 4))
			case 2:
				way = slices.Insert(way, at, way[r.IntN(len(way))], way[r.IntN(len(way))])
			case 3:
				way = way[:at+1]
			}
		}
		want := api.ErrFalse
		if slices.ContainsFunc(all, func(x []api.Part) bool { return slices.Equal(x, way) }) {
			want = api.OK
			right++
		} else {
			wrong++
		}
		if e := paths.CheckWays(p, s, 0, [][]api.Part{way}); e != want {
			t.Fatalf("%v: error %d, wanted %d, %+v %+v", way, e, want, p, s)
		}
	}
	if right < 200 || wrong < 200 {
		t.Error("ways met:", right, wrong)
	}
}

// hangsOn checks what is critical for a rack.
func hangsOn(t *testing.T, name string, p api.Plant, s api.State, rack int, want ...api.Part) {
	t.Helper()
	if l, e := paths.Critical(p, s, rack); !slices.Equal(l, want) || e != api.OK {
		t.Errorf("%s: %v, error %d, wanted %v", name, l, e, want)
	}
}

func TestCritical(t *testing.T) {
	p, s := parsed(t, chapter, 2)
	hangsOn(t, "two ways", p, s, 0)
	p, s = parsed(t, chapter, 1, 2)
	hangsOn(t, "the second breaker open", p, s, 0, bus(0), bus(2), source(0), link(0))
	p, s = parsed(t, chapter, 1)
	hangsOn(t, "both feeds by one grid", p, s, 0, bus(0), bus(2), source(0), link(0))
	p, s = parsed(t, chapter, 0, 1)
	hangsOn(t, "not fed", p, s, 0)
	p, s = parsed(t, chapter)
	hangsOn(t, "parts that have failed", p, broken(s, bus(3), link(1), source(1)), 0, bus(0), bus(2), source(0), link(0))
	p, s = parsed(t, "plant 3\nsource 2 grid 5 0 20\nsource 2 grid 5 0 20\nlink 2 1 cable 4 10\nlink 2 1 cable 4 10\nlink 1 0 cable 4 10\nrack 0 -1 1 0\nrack 2 -1 1 1\n")
	hangsOn(t, "two sources and two links side by side", p, s, 0, bus(0), bus(1), bus(2), link(2))
	hangsOn(t, "two sources at the feed", p, s, 1, bus(2))
	hangsOn(t, "a source at the feed", p, broken(s, source(1)), 1, bus(2), source(0))
}

// TestCriticalOfRandomPlants compares with what is fed after each failure.
func TestCriticalOfRandomPlants(t *testing.T) {
	r := rand.New(rand.NewPCG(5, 3))
	met := 0
	for range 1000 {
		p := randomPlant(r)
		s := randomState(r, t, p, 90)
		for rack := range p.Racks {
			var want []api.Part
			for _, x := range wholeParts(s) {
				if fedIn(p, s, rack) && !fedIn(p, broken(s, x), rack) {
					want = append(want, x)
				}
			}
			met += len(want)
			hangsOn(t, "random", p, s, rack, want...)
		}
		if t.Failed() {
			t.Fatalf("%+v %+v", p, s)
		}
	}
	if met < 1000 {
		t.Error("critical parts met:", met)
	}
}
