package steps_test

import (
	"math/rand/v2"
	"slices"
	"testing"

	"switchgear/api"
	"switchgear/plant"
	"switchgear/steps"
)

// chapter is the plant of the chapter's examples, with a rack at its last bus.
const chapter = `plant 3
source 0 grid 500 0 20
link 0 1 breaker 400 10
link 1 2 switch 400 10
rack 2 -1 100 1
`

// ring is a plant with two sources that clash, one that agrees with the second one, links of all kinds, and racks with one and two feeds.
const ring = `plant 5
source 0 grid 500 0 20
source 2 generator 500 3 20
source 4 battery 100 3 50
link 0 1 breaker 400 10
link 1 2 breaker 400 10
link 1 3 switch 400 10
link 3 4 cable 400 10
link 4 0 switch 400 10
rack 1 3 100 2
rack 2 -1 50 1
`

// parsed returns the plant of a text, and the state in which all sources are on and all links closed.
func parsed(t *testing.T, text string) (api.Plant, api.State) {
	t.Helper()
	p, line, e := plant.Parse(text)
	if e != api.OK {
		t.Fatal("Parse:", line, e)
	}
	return p, start(t, p)
}

// start returns the state in which all sources are on and all links closed.
func start(t *testing.T, p api.Plant) api.State {
	t.Helper()
	s, e := plant.Initial(p)
	if e != api.OK {
		t.Fatal("Initial:", e)
	}
	for _, l := range [][]bool{s.On, s.Closed} {
		for i := range l {
			l[i] = true
		}
	}
	return s
}

// lists returns the lists of a state, so that each can be changed in place.
func lists(s *api.State) []*[]bool {
	return []*[]bool{&s.Closed, &s.Locked, &s.BadLink, &s.On, &s.BadSource, &s.Earthed, &s.BadBus}
}

// copyState returns an equal state with memory of its own.
func copyState(s api.State) api.State {
	for _, l := range lists(&s) {
		*l = slices.Clone(*l)
	}
	return s
}

// changed returns a changed copy of a state.
func changed(s api.State, change func(s *api.State)) api.State {
	s = copyState(s)
	change(&s)
	return s
}

// sameState reports whether two states are equal.
func sameState(a, b api.State) bool {
	x, y := lists(&a), lists(&b)
	for i := range x {
		if !slices.Equal(*x[i], *y[i]) {
			return false
		}
	}
	return true
}

// zeroState reports whether a state is the zero value.
func zeroState(s api.State) bool { return sameState(s, api.State{}) }

// step returns a step.
func step(deed api.Deed, index int) api.Step { return api.Step{Deed: deed, Index: index} }

// both returns steps with their inverses, each after the other.
func both(l ...api.Step) []api.Step {
	var all []api.Step
	for _, x := range l {
		all = append(all, x, steps.Inverse(x))
	}
	return all
}

// stepsOf returns all steps of a plant, by deed and index.
func stepsOf(p api.Plant) []api.Step {
	var l []api.Step
	for deed := api.Open; deed <= api.Stop; deed++ {
		for i := range api.MaxLinks {
			if isStep(p, step(deed, i)) {
				l = append(l, step(deed, i))
			}
		}
	}
	return l
}

// isStep reports what the chapter says of a step.
func isStep(p api.Plant, x api.Step) bool {
	counts := map[api.Deed]int{
		api.Open: len(p.Links), api.Close: len(p.Links), api.Lock: len(p.Links), api.Unlock: len(p.Links),
		api.Earth: p.Buses, api.Unearth: p.Buses, api.Start: len(p.Sources), api.Stop: len(p.Sources),
	}
	onLink := x.Deed <= api.Close || x.Deed == api.Lock || x.Deed == api.Unlock
	return x.Index >= 0 && x.Index < counts[x.Deed] && !(onLink && p.Links[x.Index].Kind == api.Cable)
}

// flag returns the flag of a state that a step of its plant names, and what the step makes of it.
func flag(s api.State, x api.Step) (*bool, bool) {
	switch x.Deed {
	case api.Open, api.Close:
		return &s.Closed[x.Index], x.Deed == api.Close
	case api.Earth, api.Unearth:
		return &s.Earthed[x.Index], x.Deed == api.Earth
	case api.Lock, api.Unlock:
		return &s.Locked[x.Index], x.Deed == api.Lock
	}
	return &s.On[x.Index], x.Deed == api.Start
}

// from returns a number from low to high.
func from(r *rand.Rand, low, high int) int { return low + r.IntN(high-low+1) }

// randomPlant returns a valid plant with few buses, so that steps often matter to each other.
func randomPlant(r *rand.Rand) api.Plant {
	p := api.Plant{Buses: from(r, 1, 6)}
	for range r.IntN(4) {
		p.Sources = append(p.Sources, api.Source{Bus: r.IntN(p.Buses), Kind: api.Generator, Power: 1, Sync: r.IntN(3), Ohm: 10})
	}
	for range r.IntN(2 * p.Buses) {
		if p.Buses == 1 {
			break
		}
		a := r.IntN(p.Buses)
		kind := []api.LinkKind{api.Cable, api.Switch, api.Switch, api.Breaker, api.Breaker}[r.IntN(5)]
		p.Links = append(p.Links, api.Link{A: a, B: (a + from(r, 1, p.Buses-1)) % p.Buses, Kind: kind, Most: 1, Ohm: 10})
	}
	for range r.IntN(4) {
		x := api.Rack{Feeds: [2]int{r.IntN(p.Buses), -1}, Power: 1}
		if p.Buses > 1 && r.IntN(2) == 0 {
			x.Feeds[1] = (x.Feeds[0] + 1) % p.Buses
		}
		p.Racks = append(p.Racks, x)
	}
	return p
}

// randomState returns a valid state of a plant.
func randomState(r *rand.Rand, t *testing.T, p api.Plant) api.State {
	t.Helper()
	s := start(t, p)
	for i, x := range p.Links {
		if x.Kind != api.Cable {
			s.Closed[i], s.Locked[i] = r.IntN(2) > 0, r.IntN(4) == 0
		}
		s.BadLink[i] = r.IntN(12) == 0
	}
	for i := range p.Sources {
		s.On[i], s.BadSource[i] = r.IntN(3) > 0, r.IntN(12) == 0
	}
	for i := range p.Buses {
		s.Earthed[i], s.BadBus[i] = r.IntN(6) == 0, r.IntN(12) == 0
	}
	return s
}

// randomTask returns a task of a plant; its goal is mostly of allowed steps that do not hold yet.
func randomTask(r *rand.Rand, p api.Plant, s api.State) steps.Task {
	var t steps.Task
	for i := range p.Racks {
		if r.IntN(3) == 0 {
			t.Fed = append(t.Fed, i)
		}
	}
	for i := range p.Buses {
		if r.IntN(12) == 0 {
			t.Crew = append(t.Crew, i)
		}
	}
	all := stepsOf(p)
	for range r.IntN(6) {
		x := all[r.IntN(len(all))]
		t.Allowed = append(t.Allowed, x)
		if r.IntN(2) == 0 {
			t.Allowed = append(t.Allowed, steps.Inverse(x))
		}
	}
	for _, x := range t.Allowed {
		if at, to := flag(s, x); *at != to && r.IntN(3) == 0 {
			t.Goal = append(t.Goal, x)
		}
	}
	if r.IntN(4) == 0 {
		t.Goal = append(t.Goal, all[r.IntN(len(all))])
	}
	return t
}
