package paths_test

import (
	"math/rand/v2"
	"slices"
	"testing"

	"switchgear/api"
	"switchgear/paths"
)

// stateAfter returns the state in which the links of a transfer are moved.
func stateAfter(s api.State, x paths.Transfer) api.State {
	s = changed(s)
	if x.Open >= 0 {
		s.Closed[x.Open] = false
	}
	s.Closed[x.Close] = true
	return s
}

// canAct returns what the chapter's words say of a transfer.
func canAct(p api.Plant, s api.State, x paths.Transfer) bool {
	then := stateAfter(s, x)
	live, after := liveIn(p, s), liveIn(p, then)
	if s.BadBus[x.Watch] || live[x.Watch] || s.Closed[x.Close] || s.BadLink[x.Close] || s.Locked[x.Close] {
		return false
	}
	if x.Open >= 0 && (s.BadLink[x.Open] || s.Locked[x.Open]) || !after[x.Watch] {
		return false
	}
	for b := range p.Buses {
		if live[b] && !after[b] || after[b] && s.Earthed[b] && !(live[b] && s.Earthed[b]) {
			return false
		}
	}
	for a := range p.Sources {
		for b := range a {
			if clashIn(p, then, a, b) && !clashIn(p, s, a, b) {
				return false
			}
		}
	}
	return true
}

// settledBy returns the settled state, and which transfers have acted, by the chapter's words.
func settledBy(p api.Plant, s api.State, l []paths.Transfer) (api.State, []int) {
	var order []int
	for {
		first := -1
		for i, x := range slices.Backward(l) {
			if !slices.Contains(order, i) && canAct(p, s, x) {
				first = i
			}
		}
		if first < 0 {
			return changed(s), order
		}
		s, order = stateAfter(s, l[first]), append(order, first)
	}
}

// settles checks the state that Settle returns, and which transfers have acted.
func settles(t *testing.T, name string, p api.Plant, s api.State, l []paths.Transfer, want api.State, acted ...int) {
	t.Helper()
	u, order, e := paths.Settle(p, s, l)
	if !sameState(u, want) || !slices.Equal(order, acted) || e != api.OK {
		t.Errorf("%s: %v %v, error %d, wanted %v %v", name, u, order, e, want, acted)
	}
}

// relay is the transfer of the chapter's example.
var relay = paths.Transfer{Watch: 3, Open: 1, Close: 2}

func TestChapterTransfer(t *testing.T) {
	p, s := parsed(t, chapter, 2)
	settles(t, "the bus is live", p, s, []paths.Transfer{relay}, s)
	s = broken(s, source(1))
	want := changed(s, func(s *api.State) { s.Closed = []bool{true, false, true} })
	settles(t, "the grid at bus 1 has failed", p, s, []paths.Transfer{relay}, want, 0)
	if !liveIn(p, want)[3] {
		t.Error("bus 3 is not live")
	}
	settles(t, "no transfers", p, s, nil, s)
	settles(t, "none that is needed", p, s, []paths.Transfer{{Watch: 2, Open: -1, Close: 2}}, s)
	both := changed(s, func(s *api.State) { s.Closed = []bool{true, true, true} })
	settles(t, "nothing is opened", p, s, []paths.Transfer{{Watch: 3, Open: -1, Close: 2}}, both, 0)
	settles(t, "the bus of the grid is watched", p, s, []paths.Transfer{{Watch: 1, Open: -1, Close: 2}}, both, 0)
	settles(t, "what is opened cuts off the bus", p, s, []paths.Transfer{{Watch: 1, Open: 1, Close: 2}}, s)
	settles(t, "what is opened is open", p, changed(s, func(s *api.State) { s.Closed[1] = false }), []paths.Transfer{relay}, want, 0)
}

// TestCannotAct has each reason why a transfer cannot act, and states that differ from them only there.
func TestCannotAct(t *testing.T) {
	const text = chapter + "rack 3 -1 1 1\n"
	p, s := parsed(t, text, 2)
	s = broken(s, source(1))
	settles(t, "none", p, s, []paths.Transfer{relay}, stateAfter(s, relay), 0)
	for _, c := range []struct {
		name   string
		change func(s *api.State)
	}{
		{"the bus is live", func(s *api.State) { s.BadSource[1] = false }},
		{"the bus has failed", func(s *api.State) { s.BadBus[3] = true }},
		{"the link to be closed has failed", func(s *api.State) { s.BadLink[2] = true }},
		{"the link to be closed is locked", func(s *api.State) { s.Locked[2] = true }},
		{"the link to be opened has failed", func(s *api.State) { s.BadLink[1] = true }},
		{"the link to be opened is locked", func(s *api.State) { s.Locked[1] = true }},
		{"the link to be opened is open and has failed", func(s *api.State) { s.Closed[1], s.BadLink[1] = false, true }},
		{"the link to be opened is open and locked", func(s *api.State) { s.Closed[1], s.Locked[1] = false, true }},
		{"the other grid is off", func(s *api.State) { s.On[0] = false }},
		{"the other breaker is open", func(s *api.State) { s.Closed[0] = false }},
		{"the bus beyond has failed", func(s *api.State) { s.BadBus[2] = true }},
		{"the bus is earthed", func(s *api.State) { s.Earthed[3] = true }},
		{"all is earthed", func(s *api.State) { s.Earthed = []bool{true, true, true, true} }},
	} {
		u := changed(s, c.change)
		settles(t, c.name, p, u, []paths.Transfer{relay}, u)
		open := paths.Transfer{Watch: 3, Open: -1, Close: 2}
		if u.BadLink[1] || u.Locked[1] {
			settles(t, "nothing is opened", p, u, []paths.Transfer{open}, stateAfter(u, open), 0)
		} else {
			settles(t, "nothing is opened", p, u, []paths.Transfer{open}, u)
		}
	}
	closed := changed(s, func(s *api.State) { s.Closed[2], s.Closed[0] = true, false })
	settles(t, "the link to be closed is closed", p, closed, []paths.Transfer{relay, {Watch: 3, Open: -1, Close: 2}}, closed)
	earthed := changed(s, func(s *api.State) { s.Earthed[1] = true })
	settles(t, "a bus that stays dead is earthed", p, earthed, []paths.Transfer{relay}, stateAfter(earthed, relay), 0)
	settles(t, "another bus would be live and earthed", p, earthed, []paths.Transfer{{Watch: 3, Open: -1, Close: 2}}, earthed)
	earthed = changed(s, func(s *api.State) { s.Earthed[0], s.Earthed[2] = true, true })
	settles(t, "live buses were earthed before", p, earthed, []paths.Transfer{relay}, stateAfter(earthed, relay), 0)
}

// TestCannotActIfWorse has transfers that would make live buses dead, or sources clash.
func TestCannotActIfWorse(t *testing.T) {
	const text = "plant 6\nsource 0 grid 5 0 20\nsource 1 grid 5 0 20\nlink 0 2 breaker 4 10\nlink 2 4 breaker 4 10\nlink 0 3 breaker 4 10\nlink 4 5 switch 4 10\nlink 0 1 breaker 4 10\n"
	p, s := parsed(t, text, 2, 4)
	x := paths.Transfer{Watch: 3, Open: 1, Close: 2}
	settles(t, "the buses 4 and 5 would be dead", p, s, []paths.Transfer{x}, s)
	x.Open = 3
	settles(t, "bus 5 would be dead", p, s, []paths.Transfer{x}, s)
	dead := changed(s, func(s *api.State) { s.Closed[1] = false })
	settles(t, "bus 5 is dead already", p, dead, []paths.Transfer{x}, stateAfter(dead, x), 0)
	around := p
	around.Links = append(slices.Clone(p.Links), api.Link{A: 5, B: 0, Kind: api.Cable, Most: 4, Ohm: 10})
	ring := changed(s, func(s *api.State) {
		s.Closed, s.Locked, s.BadLink = append(s.Closed, true), append(s.Locked, false), append(s.BadLink, false)
	})
	settles(t, "bus 5 has another way", around, ring, []paths.Transfer{x}, stateAfter(ring, x), 0)
	// A transfer that joins both grids makes no dead bus live.
	x = paths.Transfer{Watch: 3, Open: -1, Close: 4}
	settles(t, "both grids would clash", p, s, []paths.Transfer{x}, s)
	x = paths.Transfer{Watch: 3, Open: 4, Close: 2}
	clash := changed(s, func(s *api.State) { s.Closed[4] = true })
	settles(t, "both grids clashed, and then do not", p, clash, []paths.Transfer{x}, stateAfter(clash, x), 0)
	x.Open = -1
	settles(t, "both grids clash before and after", p, clash, []paths.Transfer{x}, stateAfter(clash, x), 0)
}

// TestChapterClash has two transfers by which the grids would be joined: after one of them has acted the other one cannot.
func TestChapterClash(t *testing.T) {
	const text = "plant 3\nsource 0 grid 5 0 20\nsource 2 grid 5 0 20\nlink 0 1 breaker 4 10\nlink 2 1 breaker 4 10\nrack 1 -1 1 1\n"
	p, s := parsed(t, text, 0, 1)
	l := []paths.Transfer{{Watch: 1, Open: -1, Close: 0}, {Watch: 1, Open: -1, Close: 1}}
	settles(t, "the first one", p, s, l, stateAfter(s, l[0]), 0)
	slices.Reverse(l)
	settles(t, "the other one first", p, s, l, stateAfter(s, l[0]), 0)
	p.Sources[0].Sync, p.Sources[1].Sync = 3, 3
	settles(t, "sources that agree", p, s, l, stateAfter(s, l[0]), 0)
}

// chain is a plant with a source at bus 0 and a link from each of its buses to the next one, and the state in which the source is on, and all links are open.
func chain(t *testing.T, buses int) (api.Plant, api.State) {
	t.Helper()
	p := api.Plant{Buses: buses, Sources: []api.Source{{Bus: 0, Kind: api.Grid, Power: 5, Ohm: 20}}}
	for i := 1; i < buses; i++ {
		p.Links = append(p.Links, api.Link{A: i - 1, B: i, Kind: api.Switch, Most: 5, Ohm: 10})
	}
	s := start(t, p)
	clear(s.Closed)
	return p, s
}

// onward returns the transfer that makes a bus of a chain live if the one before it is.
func onward(bus int) paths.Transfer { return paths.Transfer{Watch: bus, Open: -1, Close: bus - 1} }

func TestSettleInOrder(t *testing.T) {
	p, s := chain(t, 5)
	want := changed(s, func(s *api.State) { s.Closed = []bool{true, true, true, true} })
	settles(t, "one after the other", p, s, []paths.Transfer{onward(1), onward(2), onward(3), onward(4)}, want, 0, 1, 2, 3)
	settles(t, "the last one first", p, s, []paths.Transfer{onward(4), onward(3), onward(2), onward(1)}, want, 3, 2, 1, 0)
	settles(t, "from the beginning again", p, s, []paths.Transfer{onward(3), onward(2), onward(1), onward(4)}, want, 2, 1, 0, 3)
	settles(t, "the first one that can", p, s, []paths.Transfer{onward(2), onward(4), onward(1), onward(3)}, want, 2, 0, 3, 1)
	settles(t, "each at most once", p, s, []paths.Transfer{onward(2), onward(1), onward(2), onward(1)}, changed(s, func(s *api.State) { s.Closed[0], s.Closed[1] = true, true }), 1, 0)
	settles(t, "one is missing", p, s, []paths.Transfer{onward(4), onward(1), onward(3)}, changed(s, func(s *api.State) { s.Closed[0] = true }), 1)
	// The transfer that comes first is the one that acts, though the other one would make more buses live.
	p.Links = append(p.Links, api.Link{A: 0, B: 2, Kind: api.Breaker, Most: 5, Ohm: 10})
	s.Closed, s.Locked, s.BadLink = append(s.Closed, false), append(s.Locked, false), append(s.BadLink, false)
	s.Closed[1] = true
	l := []paths.Transfer{{Watch: 2, Open: 1, Close: 4}, {Watch: 2, Open: -1, Close: 0}, {Watch: 1, Open: -1, Close: 1}, {Watch: 1, Open: 4, Close: 0}}
	settles(t, "the first one of two", p, s, l, changed(s, func(s *api.State) { s.Closed = []bool{false, true, false, false, true} }), 0, 2)
	settles(t, "the other one of two", p, s, l[1:], changed(s, func(s *api.State) { s.Closed = []bool{true, true, false, false, false} }), 0)
}

func TestSettleManyTransfers(t *testing.T) {
	p, s := chain(t, 18)
	var l []paths.Transfer
	var order []int
	for i := range paths.MaxTransfers {
		l = append(l, onward(paths.MaxTransfers-i))
		order = append(order, paths.MaxTransfers-1-i)
	}
	want := changed(s, func(s *api.State) {
		for i := range paths.MaxTransfers {
			s.Closed[i] = true
		}
	})
	settles(t, "16 of them", p, s, l, want, order...)
	if u, order, e := paths.Settle(p, s, append(l, onward(17))); e != api.ErrArg || !sameState(u, api.State{}) || order != nil {
		t.Error("17 of them", u, order, e)
	}
}

func TestWrongTransfers(t *testing.T) {
	p, s := parsed(t, ring)
	right := paths.Transfer{Watch: 0, Open: 0, Close: 1}
	for i, x := range []paths.Transfer{
		right, {Watch: 5, Open: -1, Close: 5}, {Watch: 0, Open: 2, Close: 0}, {Watch: 2, Open: 5, Close: 3},
	} {
		if _, _, e := paths.Settle(p, s, []paths.Transfer{x}); e != api.OK {
			t.Error("right", i, e)
		}
	}
	for i, x := range []paths.Transfer{
		{Watch: -1, Open: -1, Close: 0}, {Watch: 6, Open: -1, Close: 0},
		{Watch: 0, Open: -1, Close: -1}, {Watch: 0, Open: -1, Close: 6}, {Watch: 0, Open: -1, Close: 4}, {Watch: 0, Open: 0, Close: 4},
		{Watch: 0, Open: -2, Close: 0}, {Watch: 0, Open: 6, Close: 0}, {Watch: 0, Open: 4, Close: 0},
		{Watch: 0, Open: 0, Close: 0}, {Watch: 0, Open: 5, Close: 5},
	} {
		for k, l := range [][]paths.Transfer{{x}, {right, x}, {x, right}} {
			for name, e := range all(t, p, s, 0, nil, l, nil, true) {
				if takes := name == "Settle" || name == "After" || name == "Dark" || name == "Promise" || name == "Weak"; takes && e != api.ErrArg || !takes && e != api.OK {
					t.Error("wrong", i, k, name, e)
				}
			}
		}
	}
}

// TestSettleRandomPlants compares with the chapter's words.
func TestSettleRandomPlants(t *testing.T) {
	r := rand.New(rand.NewPCG(5, 4))
	var met [4]int
	for range 8000 {
		p := randomPlant(r)
		s := randomState(r, t, p, 25)
		l := randomTransfers(r, p, paths.MaxTransfers)
		want, order := settledBy(p, s, l)
		met[min(len(order), 3)]++
		settles(t, "random", p, s, l, want, order...)
		if t.Failed() {
			t.Fatalf("%+v %+v %v", p, s, l)
		}
	}
	if slices.Min(met[:]) < 50 {
		t.Error("transfers that acted:", met)
	}
}
