package paths_test

import (
	"math/rand/v2"
	"slices"
	"testing"

	"switchgear/api"
	"switchgear/paths"
	"switchgear/plant"
)

// chapter is the plant of the chapter's examples; its last breaker is open in them.
const chapter = `plant 4
source 0 grid 500 0 20
source 1 grid 500 0 20
link 0 2 breaker 400 10
link 1 3 breaker 400 10
link 2 3 breaker 400 10
rack 2 3 100 2
`

// ring has links of all kinds and racks with one and two feeds, to which none, one and two paths are promised.
const ring = `plant 6
source 0 grid 500 0 20
source 3 generator 500 3 20
link 0 1 breaker 400 10
link 1 2 breaker 400 10
link 2 3 switch 400 10
link 3 4 breaker 400 10
link 4 5 cable 400 10
link 5 0 breaker 400 10
rack 1 -1 100 1
rack 1 2 100 2
rack 4 2 100 2
rack 5 -1 100 0
rack 5 1 100 1
`

// bus, source and link return parts.
func bus(i int) api.Part    { return api.Part{Kind: api.BusPart, Index: i} }
func source(i int) api.Part { return api.Part{Kind: api.SourcePart, Index: i} }
func link(i int) api.Part   { return api.Part{Kind: api.LinkPart, Index: i} }

// parsed returns the plant of a text, and the state in which all sources are on and all links closed but for some.
func parsed(t *testing.T, text string, open ...int) (api.Plant, api.State) {
	t.Helper()
	p, line, e := plant.Parse(text)
	if e != api.OK {
		t.Fatal("Parse:", line, e)
	}
	s := start(t, p)
	for _, i := range open {
		s.Closed[i] = false
	}
	return p, s
}

// start returns the state in which all sources are on and all links closed.
func start(t *testing.T, p api.Plant) api.State {
	t.Helper()
	s, e := plant.Initial(p)
	if e != api.OK {
		t.Fatal("Initial:", e)
	}
	for _, l := range [][]bool{s.On, s.Closed} {
		for i := range l {
			l[i] = true
		}
	}
	return s
}

// lists returns the lists of a state, so that each can be changed in place.
func lists(s *api.State) []*[]bool {
	return []*[]bool{&s.Closed, &s.Locked, &s.BadLink, &s.On, &s.BadSource, &s.Earthed, &s.BadBus}
}

// changed returns a copy of a state after some changes.
func changed(s api.State, changes ...func(s *api.State)) api.State {
	for _, l := range lists(&s) {
		*l = slices.Clone(*l)
	}
	for _, change := range changes {
		change(&s)
	}
	return s
}

// broken returns a copy of a state in which some parts have failed.
func broken(s api.State, parts ...api.Part) api.State {
	s = changed(s)
	for _, x := range parts {
		badOf(s, x.Kind)[x.Index] = true
	}
	return s
}

// badOf returns the list of a state that says which parts of a kind have failed.
func badOf(s api.State, kind api.PartKind) []bool {
	return map[api.PartKind][]bool{api.BusPart: s.BadBus, api.SourcePart: s.BadSource, api.LinkPart: s.BadLink}[kind]
}

// wholeParts returns the parts that have not failed: buses, sources, links.
func wholeParts(s api.State) []api.Part {
	var l []api.Part
	for kind := api.BusPart; kind <= api.LinkPart; kind++ {
		for i, bad := range badOf(s, kind) {
			if !bad {
				l = append(l, api.Part{Kind: kind, Index: i})
			}
		}
	}
	return l
}

// sameState reports whether two states are equal.
func sameState(a, b api.State) bool {
	x, y := lists(&a), lists(&b)
	for i := range x {
		if !slices.Equal(*x[i], *y[i]) {
			return false
		}
	}
	return true
}

// sameLists reports whether two lists of lists are equal.
func sameLists[T comparable](a, b [][]T) bool { return slices.EqualFunc(a, b, slices.Equal[[]T]) }

// reaches returns which buses can be reached from a bus over links that conduct; none if the bus has failed.
func reaches(p api.Plant, s api.State, from int) []bool {
	met := make([]bool, p.Buses)
	met[from] = !s.BadBus[from]
	for range p.Buses {
		for i, x := range p.Links {
			if s.Closed[i] && !s.BadLink[i] && !s.BadBus[x.A] && !s.BadBus[x.B] && (met[x.A] || met[x.B]) {
				met[x.A], met[x.B] = true, true
			}
		}
	}
	return met
}

// liveIn returns which buses are live, by what is reached from sources.
func liveIn(p api.Plant, s api.State) []bool {
	live := make([]bool, p.Buses)
	for i, x := range p.Sources {
		if !s.On[i] || s.BadSource[i] {
			continue
		}
		for b, is := range reaches(p, s, x.Bus) {
			live[b] = live[b] || is
		}
	}
	return live
}

// fedIn reports whether a rack is fed, by what is reached from sources.
func fedIn(p api.Plant, s api.State, rack int) bool {
	live := liveIn(p, s)
	return slices.ContainsFunc(p.Racks[rack].Feeds[:], func(b int) bool { return b >= 0 && live[b] })
}

// clashIn reports whether two sources clash.
func clashIn(p api.Plant, s api.State, a, b int) bool {
	x, y := p.Sources[a], p.Sources[b]
	feed := s.On[a] && s.On[b] && !s.BadSource[a] && !s.BadSource[b]
	return feed && (x.Sync == 0 || x.Sync != y.Sync) && reaches(p, s, x.Bus)[y.Bus]
}

// from returns a number from low to high.
func from(r *rand.Rand, low, high int) int { return low + r.IntN(high-low+1) }

// randomPlant returns a valid plant with few buses, so that ways often cross each other.
func randomPlant(r *rand.Rand) api.Plant {
	p := api.Plant{Buses: from(r, 1, 7)}
	for range min(from(r, 0, 6), 3) {
		p.Sources = append(p.Sources, api.Source{Bus: r.IntN(p.Buses), Kind: api.Generator, Power: 1, Sync: r.IntN(3), Ohm: 10})
	}
	for range from(r, p.Buses-1, 2*p.Buses) {
		if p.Buses == 1 {
			break
		}
		a := r.IntN(p.Buses)
		kind := []api.LinkKind{api.Cable, api.Switch, api.Breaker, api.Breaker, api.Breaker}[r.IntN(5)]
		p.Links = append(p.Links, api.Link{A: a, B: (a + from(r, 1, p.Buses-1)) % p.Buses, Kind: kind, Most: 1, Ohm: 10})
	}
	for range from(r, 1, 3) {
		x := api.Rack{Feeds: [2]int{r.IntN(p.Buses), -1}, Power: 1}
		if p.Buses > 1 && r.IntN(4) > 0 {
			x.Feeds[1] = (x.Feeds[0] + from(r, 1, p.Buses-1)) % p.Buses
		}
		x.Paths = from(r, 0, 2)
		if x.Feeds[1] < 0 {
			x.Paths = from(r, 0, 1)
		}
		p.Racks = append(p.Racks, x)
	}
	return p
}

// randomState returns a valid state of a plant; so many of 100 breakers and switches are closed in it.
func randomState(r *rand.Rand, t *testing.T, p api.Plant, closed int) api.State {
	t.Helper()
	s := start(t, p)
	for i, x := range p.Links {
		if x.Kind != api.Cable {
			s.Closed[i], s.Locked[i] = r.IntN(100) < closed, r.IntN(12) == 0
		}
		s.BadLink[i] = r.IntN(16) == 0
	}
	for i := range p.Sources {
		s.On[i], s.BadSource[i] = r.IntN(8) > 0, r.IntN(16) == 0
	}
	for i := range p.Buses {
		s.Earthed[i], s.BadBus[i] = r.IntN(20) == 0, r.IntN(16) == 0
	}
	return s
}

// randomTransfers returns transfers of a plant: from half of so many to all of them, or none if it has only cables. Most of them watch an end of the link that they close.
func randomTransfers(r *rand.Rand, p api.Plant, most int) []paths.Transfer {
	var links []int
	for i, x := range p.Links {
		if x.Kind != api.Cable {
			links = append(links, i)
		}
	}
	var l []paths.Transfer
	for range most - r.IntN(most+1)/2 {
		if len(links) == 0 {
			break
		}
		x := paths.Transfer{Watch: r.IntN(p.Buses), Open: -1, Close: links[r.IntN(len(links))]}
		if r.IntN(4) > 0 {
			x.Watch = []int{p.Links[x.Close].A, p.Links[x.Close].B}[r.IntN(2)]
		}
		if open := links[r.IntN(len(links))]; open != x.Close && r.IntN(3) == 0 {
			x.Open = open
		}
		l = append(l, x)
	}
	return l
}
