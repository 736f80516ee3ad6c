package paths_test

import (
	"math/rand/v2"
	"slices"
	"testing"

	"switchgear/api"
	"switchgear/paths"
)

// darkBy returns the racks that are dark after some parts have failed, by the chapter's words.
func darkBy(p api.Plant, s api.State, l []paths.Transfer, parts ...api.Part) []int {
	s, _ = settledBy(p, broken(s, parts...), l)
	var racks []int
	for rack, x := range p.Racks {
		if x.Paths >= 1 && !fedIn(p, s, rack) {
			racks = append(racks, rack)
		}
	}
	return racks
}

// promiseBy returns what breaks the promises, by the chapter's words.
func promiseBy(p api.Plant, s api.State, l []paths.Transfer) []paths.Breach {
	var list []paths.Breach
	for rack, x := range p.Racks {
		switch {
		case x.Paths >= 1 && !fedIn(p, s, rack):
			list = append(list, paths.Breach{Rack: rack})
		case x.Paths == 2:
			for _, part := range wholeParts(s) {
				if slices.Contains(darkBy(p, s, l, part), rack) {
					list = append(list, paths.Breach{Rack: rack, Part: part})
				}
			}
		}
	}
	return list
}

// weakBy returns the failures that leave racks in the dark, by the chapter's words.
func weakBy(p api.Plant, s api.State, l []paths.Transfer, pairs bool) [][]api.Part {
	var list [][]api.Part
	var others []api.Part
	for _, x := range wholeParts(s) {
		if len(darkBy(p, s, l, x)) > 0 {
			list = append(list, []api.Part{x})
		} else {
			others = append(others, x)
		}
	}
	for b := range others {
		for a := range b {
			if pairs && len(darkBy(p, s, l, others[a], others[b])) > 0 {
				list = append(list, []api.Part{others[a], others[b]})
			}
		}
	}
	slices.SortStableFunc(list, func(a, b []api.Part) int { return comparePairs(s, a, b) })
	return list
}

// comparePairs compares by length, and then in lexicographic order of the places of the parts.
func comparePairs(s api.State, a, b []api.Part) int {
	if len(a) != len(b) {
		return len(a) - len(b)
	}
	all := wholeParts(s)
	for i := range a {
		if a[i] != b[i] {
			return slices.Index(all, a[i]) - slices.Index(all, b[i])
		}
	}
	return 0
}

// darkens checks what After and Dark return after some parts have failed.
func darkens(t *testing.T, name string, p api.Plant, s api.State, l []paths.Transfer, parts []api.Part, want api.State, racks ...int) {
	t.Helper()
	if u, e := paths.After(p, s, l, parts); !sameState(u, want) || e != api.OK {
		t.Errorf("%s: after %v: %v, error %d, wanted %v", name, parts, u, e, want)
	}
	if list, e := paths.Dark(p, s, l, parts); !slices.Equal(list, racks) || e != api.OK {
		t.Errorf("%s: after %v: dark %v, error %d, wanted %v", name, parts, list, e, racks)
	}
}

func TestAfter(t *testing.T) {
	const text = chapter + "rack 3 -1 1 1\nrack 3 -1 1 0\nrack 2 -1 1 1\n"
	p, s := parsed(t, text, 2)
	l := []paths.Transfer{relay}
	darkens(t, "no parts", p, s, l, nil, s)
	grid := []api.Part{source(1)}
	darkens(t, "the grid at bus 1", p, s, l, grid, stateAfter(broken(s, grid...), relay))
	darkens(t, "the grid without a transfer", p, s, nil, grid, broken(s, grid...), 1)
	both := []api.Part{source(1), source(0)}
	darkens(t, "both grids: none can act", p, s, l, both, broken(s, both...), 0, 1, 3)
	darkens(t, "what is to be closed", p, s, l, []api.Part{link(2), source(1)}, broken(s, link(2), source(1)), 1)
	darkens(t, "the bus", p, s, l, []api.Part{bus(3)}, broken(s, bus(3)), 1)
	twice := []api.Part{source(1), source(1)}
	darkens(t, "the same part twice", p, s, l, twice, stateAfter(broken(s, grid...), relay))
	failed := broken(s, source(1))
	settled := stateAfter(failed, relay)
	darkens(t, "it has failed already", p, failed, l, grid, settled)
	darkens(t, "it has failed already, and no other part", p, failed, l, nil, settled)
	darkens(t, "it has failed already, and another one fails", p, failed, l, both, broken(failed, source(0)), 0, 1, 3)
	darkens(t, "the transfer has acted", p, settled, l, []api.Part{link(0)}, broken(settled, link(0)), 0, 1, 3)
	darkens(t, "the transfer is not needed any more", p, settled, l, []api.Part{source(1), link(1)}, broken(settled, link(1)))
}

func TestWrongParts(t *testing.T) {
	p, s := parsed(t, chapter)
	for i, x := range []api.Part{
		{}, {Kind: 4}, {Kind: -1, Index: 1}, bus(-1), bus(4), source(2), source(-1), link(3), link(-1),
	} {
		for k, parts := range [][]api.Part{{x}, {bus(1), x}, {x, bus(1)}, {bus(3), bus(3), x}} {
			for name, e := range all(t, p, s, 0, nil, []paths.Transfer{relay}, parts, true) {
				if takes := name == "After" || name == "Dark"; takes && e != api.ErrPart || !takes && e != api.OK {
					t.Error(i, k, name, e)
				}
			}
			for name, e := range all(t, p, s, 0, nil, make([]paths.Transfer, 1), parts, true) {
				if takes := name == "After" || name == "Dark"; takes && e != api.ErrArg {
					t.Error("transfers come first:", i, k, name, e)
				}
			}
		}
	}
}

// breaches checks what Promise returns.
func breaches(t *testing.T, name string, p api.Plant, s api.State, l []paths.Transfer, want ...paths.Breach) {
	t.Helper()
	if list, e := paths.Promise(p, s, l); !slices.Equal(list, want) || e != api.OK {
		t.Errorf("%s: %v, error %d, wanted %v", name, list, e, want)
	}
}

// breach returns a breach for each part.
func breach(rack int, parts ...api.Part) []paths.Breach {
	var l []paths.Breach
	for _, x := range parts {
		l = append(l, paths.Breach{Rack: rack, Part: x})
	}
	return l
}

func TestPromise(t *testing.T) {
	p, s := parsed(t, chapter, 2)
	breaches(t, "two paths", p, s, nil)
	open := changed(s, func(s *api.State) { s.Closed[1] = false })
	breaches(t, "the second breaker open", p, open, nil, breach(0, bus(0), bus(2), source(0), link(0))...)
	l := []paths.Transfer{{Watch: 3, Open: -1, Close: 1}}
	breaches(t, "a transfer that acts after any failure", p, open, l)
	l = []paths.Transfer{{Watch: 2, Open: 0, Close: 2}}
	breaches(t, "a transfer that can never act", p, open, l, breach(0, bus(0), bus(2), source(0), link(0))...)
	off := changed(open, func(s *api.State) { s.On[0] = false })
	breaches(t, "not fed", p, off, nil, paths.Breach{Rack: 0})
	l = []paths.Transfer{{Watch: 3, Open: -1, Close: 1}}
	breaches(t, "not fed before a transfer acts", p, off, l, paths.Breach{Rack: 0})
	p.Racks = []api.Rack{
		{Feeds: [2]int{3, -1}, Power: 1, Paths: 1}, {Feeds: [2]int{3, -1}, Power: 1, Paths: 0},
		{Feeds: [2]int{2, 3}, Power: 1, Paths: 2}, {Feeds: [2]int{2, -1}, Power: 1, Paths: 1},
		{Feeds: [2]int{2, 3}, Power: 1, Paths: 1}, {Feeds: [2]int{2, 3}, Power: 1, Paths: 0},
	}
	want := append([]paths.Breach{{Rack: 0}}, breach(2, bus(0), bus(2), source(0), link(0))...)
	breaches(t, "none, one and two paths", p, open, nil, want...)
	breaches(t, "all are fed", p, s, nil)
	failed := broken(s, source(1), link(0))
	breaches(t, "all are dark", p, failed, nil, paths.Breach{Rack: 0}, paths.Breach{Rack: 2}, paths.Breach{Rack: 3}, paths.Breach{Rack: 4})
	failed = broken(s, bus(1), source(1))
	breaches(t, "parts that have failed are not named", p, failed, nil, want...)
}

// TestPromiseWithTransfers has parts for which a transfer acts, and others for which it cannot.
func TestPromiseWithTransfers(t *testing.T) {
	p, s := parsed(t, "plant 4\nsource 0 grid 5 0 20\nsource 1 grid 5 0 20\nlink 0 2 breaker 4 10\nlink 1 2 breaker 4 10\nlink 2 3 breaker 4 10\nrack 3 2 1 2\n", 1)
	breaches(t, "no transfer", p, s, nil, breach(0, bus(0), bus(2), source(0), link(0))...)
	l := []paths.Transfer{{Watch: 2, Open: 0, Close: 1}}
	breaches(t, "the other grid, unless what is opened fails", p, s, l, breach(0, bus(2), link(0))...)
	breaches(t, "what is opened is locked", p, changed(s, func(s *api.State) { s.Locked[0] = true }), l, breach(0, bus(0), bus(2), source(0), link(0))...)
	breaches(t, "what is opened has failed", p, broken(changed(s, func(s *api.State) { s.Closed = []bool{false, true, true} }), link(0)), l, breach(0, bus(1), bus(2), source(1), link(1))...)
	breaches(t, "the other grid, if nothing is opened", p, s, []paths.Transfer{{Watch: 3, Open: -1, Close: 1}}, breach(0, bus(2))...)
}

// weakens checks what Weak returns, without and with pairs.
func weakens(t *testing.T, name string, p api.Plant, s api.State, l []paths.Transfer, alone []api.Part, pairs ...[]api.Part) {
	t.Helper()
	var want [][]api.Part
	for _, x := range alone {
		want = append(want, []api.Part{x})
	}
	if list, e := paths.Weak(p, s, l, false); !sameLists(list, want) || e != api.OK {
		t.Errorf("%s: %v, error %d, wanted %v", name, list, e, want)
	}
	want = append(want, pairs...)
	if list, e := paths.Weak(p, s, l, true); !sameLists(list, want) || e != api.OK {
		t.Errorf("%s: with pairs %v, error %d, wanted %v", name, list, e, want)
	}
}

// crossed returns all pairs of one part of each list.
func crossed(first []api.Part, second ...api.Part) [][]api.Part {
	var l [][]api.Part
	for _, a := range first {
		for _, b := range second {
			l = append(l, []api.Part{a, b})
		}
	}
	return l
}

func TestWeak(t *testing.T) {
	p, s := parsed(t, chapter, 2)
	pairs := slices.Concat(
		crossed([]api.Part{bus(0)}, bus(1), bus(3), source(1), link(1)),
		crossed([]api.Part{bus(1)}, bus(2), source(0), link(0)),
		crossed([]api.Part{bus(2)}, bus(3), source(1), link(1)),
		crossed([]api.Part{bus(3)}, source(0), link(0)),
		crossed([]api.Part{source(0)}, source(1), link(1)),
		crossed([]api.Part{source(1)}, link(0)),
		crossed([]api.Part{link(0)}, link(1)),
	)
	weakens(t, "two paths", p, s, nil, nil, pairs...)
	open := changed(s, func(s *api.State) { s.Closed[1] = false })
	weakens(t, "one path: what is weak alone is in no pair", p, open, nil, []api.Part{bus(0), bus(2), source(0), link(0)})
	failed := broken(s, source(1))
	weakens(t, "a part that has failed", p, failed, nil, []api.Part{bus(0), bus(2), source(0), link(0)})
	weakens(t, "a part that has failed, and a transfer that cannot help", p, failed, []paths.Transfer{relay}, []api.Part{bus(0), bus(2), source(0), link(0)})
	dark := broken(s, source(1), source(0))
	weakens(t, "dark already", p, dark, nil, []api.Part{bus(0), bus(1), bus(2), bus(3), link(0), link(1), link(2)})
	p.Racks[0].Paths = 0
	weakens(t, "nothing is promised", p, s, nil, nil)
	p.Racks = append(p.Racks, api.Rack{Feeds: [2]int{2, -1}, Power: 1, Paths: 1})
	weakens(t, "the last rack", p, s, nil, []api.Part{bus(0), bus(2), source(0), link(0)})
	p.Racks[1].Paths, p.Racks[0].Paths = 0, 1
	weakens(t, "one path promised", p, s, nil, nil, pairs...)
}

// TestWeakWithTransfers has a rack that hangs on a transfer after some failures.
func TestWeakWithTransfers(t *testing.T) {
	p, s := parsed(t, chapter+"rack 3 -1 1 1\n", 2)
	weakens(t, "none", p, s, nil, []api.Part{bus(1), bus(3), source(1), link(1)})
	pairs := slices.Concat(
		crossed([]api.Part{bus(0)}, bus(1), source(1)),
		crossed([]api.Part{bus(1)}, bus(2), source(0), link(0), link(2)),
		crossed([]api.Part{bus(2)}, source(1)),
		crossed([]api.Part{source(0)}, source(1)),
		crossed([]api.Part{source(1)}, link(0), link(2)),
	)
	weakens(t, "one that acts after some failures", p, s, []paths.Transfer{relay}, []api.Part{bus(3), link(1)}, pairs...)
	weakens(t, "it has acted already", p, broken(s, source(1)), []paths.Transfer{relay}, []api.Part{bus(0), bus(2), bus(3), source(0), link(0), link(1), link(2)})
}

// TestFailuresOfRandomPlants compares After, Dark, Promise and Weak with the chapter's words.
func TestFailuresOfRandomPlants(t *testing.T) {
	r := rand.New(rand.NewPCG(5, 5))
	dark, broke, weak, acted := 0, 0, 0, 0
	for range 2000 {
		p := randomPlant(r)
		s := randomState(r, t, p, from(r, 10, 80))
		l := randomTransfers(r, p, 6)
		var parts []api.Part
		for _, x := range append(wholeParts(s), bus(0), bus(0)) {
			if r.IntN(12) == 0 {
				parts = append(parts, x)
			}
		}
		want, order := settledBy(p, broken(s, parts...), l)
		racks := darkBy(p, s, l, parts...)
		darkens(t, "random", p, s, l, parts, want, racks...)
		breachesBy := promiseBy(p, s, l)
		breaches(t, "random", p, s, l, breachesBy...)
		for _, pairs := range []bool{false, true} {
			want := weakBy(p, s, l, pairs)
			if list, e := paths.Weak(p, s, l, pairs); !sameLists(list, want) || e != api.OK {
				t.Errorf("weak: %v, error %d, wanted %v", list, e, want)
			}
			weak += len(want)
		}
		dark, broke, acted = dark+len(racks), broke+len(breachesBy), acted+len(order)
		if t.Failed() {
			t.Fatalf("%+v %+v %v %v", p, s, l, parts)
		}
	}
	if min(dark, broke, weak) < 500 || acted < 100 {
		t.Error("met:", dark, broke, weak, acted)
	}
}
