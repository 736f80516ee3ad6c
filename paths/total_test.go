package paths_test

import (
	"math"
	"math/rand/v2"
	"slices"
	"testing"

	"switchgear/api"
	"switchgear/paths"
)

// all calls every function; with an error every other result must be zero.
func all(t *testing.T, p api.Plant, s api.State, rack int, ways [][]api.Part, l []paths.Transfer, parts []api.Part, pairs bool) map[string]api.Errno {
	t.Helper()
	n, strength := paths.Strength(p, s, rack)
	found, waysOf := paths.Ways(p, s, rack)
	checked := paths.CheckWays(p, s, rack, ways)
	hangs, critical := paths.Critical(p, s, rack)
	settled, order, settle := paths.Settle(p, s, l)
	broke, after := paths.After(p, s, l, parts)
	racks, dark := paths.Dark(p, s, l, parts)
	breaches, promise := paths.Promise(p, s, l)
	failures, weak := paths.Weak(p, s, l, pairs)
	for _, c := range []struct {
		name string
		e    api.Errno
		zero bool
	}{
		{"Strength", strength, n == 0},
		{"Ways", waysOf, len(found) == 0},
		{"Critical", critical, len(hangs) == 0},
		{"Settle", settle, sameState(settled, api.State{}) && len(order) == 0},
		{"After", after, sameState(broke, api.State{})},
		{"Dark", dark, len(racks) == 0},
		{"Promise", promise, len(breaches) == 0},
		{"Weak", weak, len(failures) == 0},
	} {
		if c.e != api.OK && !c.zero {
			t.Errorf("%s: a result with the error %d", c.name, c.e)
		}
	}
	return map[string]api.Errno{"Strength": strength, "Ways": waysOf, "CheckWays": checked, "Critical": critical, "Settle": settle, "After": after, "Dark": dark, "Promise": promise, "Weak": weak}
}

// TestErrorsOfAll checks that the errors of plants and states come first, and then those of racks.
func TestErrorsOfAll(t *testing.T) {
	wrong := make([]paths.Transfer, paths.MaxTransfers+1)
	takesRack := []string{"Strength", "Ways", "CheckWays", "Critical"}
	for i, change := range []func(p *api.Plant){
		func(p *api.Plant) { p.Buses = 25 }, func(p *api.Plant) { p.Sources[0].Power = 0 }, func(p *api.Plant) { p.Links[0].Kind = 0 }, func(p *api.Plant) { p.Racks[0].Paths = 3 },
	} {
		p, _ := parsed(t, chapter)
		change(&p)
		for name, e := range all(t, p, api.State{}, -1, [][]api.Part{nil}, wrong, make([]api.Part, 1), true) {
			if e != api.ErrBus+api.Errno(i) {
				t.Error(name, e)
			}
		}
	}
	p, s := parsed(t, ring)
	for i := range lists(&s) {
		for _, change := range []func(l []bool) []bool{
			func(l []bool) []bool { return nil }, func(l []bool) []bool { return l[1:] }, func(l []bool) []bool { return append(l, false) },
		} {
			u := changed(s)
			list := lists(&u)[i]
			*list = change(*list)
			for name, e := range all(t, p, u, -1, [][]api.Part{nil}, wrong, make([]api.Part, 1), true) {
				if e != api.ErrState {
					t.Error(name, i, e)
				}
			}
		}
	}
	for name, e := range all(t, p, changed(s, func(s *api.State) { s.Closed[4] = false }), -1, nil, wrong, nil, true) {
		if e != api.ErrState {
			t.Error("an open cable:", name, e)
		}
	}
	for _, rack := range []int{-1, 5, 24, math.MinInt, math.MaxInt} {
		for name, e := range all(t, p, s, rack, [][]api.Part{nil}, nil, nil, true) {
			if takes := slices.Contains(takesRack, name); takes && e != api.ErrRack || !takes && e != api.OK {
				t.Error(name, rack, e)
			}
		}
	}
	for name, e := range all(t, p, s, 4, nil, nil, nil, true) {
		if e != api.OK {
			t.Error(name, e)
		}
	}
}

// TestOddArguments calls everything with arguments that are mostly wrong: nothing may panic.
func TestOddArguments(t *testing.T) {
	r := rand.New(rand.NewPCG(5, 8))
	odd := []int{math.MinInt, -2, -1, 0, 1, 2, 3, 4, 5, 6, 8, 9, 24, 25, 40, math.MaxInt}
	pick := func() int { return odd[r.IntN(len(odd))] }
	oddParts := func() []api.Part {
		l := make([]api.Part, r.IntN(7))
		for i := range l {
			l[i] = api.Part{Kind: api.PartKind(pick()), Index: pick()}
		}
		return l
	}
	for range 3000 {
		p, s := parsed(t, ring, 0, 2)
		for _, l := range lists(&s) {
			switch r.IntN(16) {
			case 0:
				*l = make([]bool, r.IntN(70))
			case 1:
				(*l)[0] = !(*l)[0]
			}
		}
		numbers := []*int{&p.Buses, &p.Sources[0].Bus, &p.Sources[0].Sync, &p.Links[0].A, &p.Links[0].B, (*int)(&p.Links[1].Kind), &p.Racks[0].Feeds[0], &p.Racks[1].Feeds[1], &p.Racks[1].Paths}
		for range r.IntN(3) {
			*numbers[r.IntN(len(numbers))] = pick()
		}
		var l []paths.Transfer
		for range r.IntN(4) {
			l = append(l, paths.Transfer{Watch: pick(), Open: pick(), Close: pick()})
		}
		all(t, p, s, pick(), [][]api.Part{oddParts()}, l, oddParts(), r.IntN(4) == 0)
		all(t, p, s, r.IntN(5), [][]api.Part{oddParts(), append([]api.Part{source(0), bus(0)}, oddParts()...)}, randomTransfers(r, plantOf(t), 4), oddParts(), false)
		if t.Failed() {
			t.Fatalf("%+v %+v %v", p, s, l)
		}
	}
}

// plantOf returns the plant ring.
func plantOf(t *testing.T) api.Plant {
	p, _ := parsed(t, ring)
	return p
}

// spoil changes all elements of a list, and what may stand behind it.
func spoil[T any](list []T, x T) {
	for i := range list {
		list[i] = x
	}
	_ = append(list, x)
}

// spoilState changes all that a state holds, and what may stand behind its lists.
func spoilState(s api.State) {
	for _, l := range lists(&s) {
		for i := range *l {
			(*l)[i] = !(*l)[i]
		}
		_ = append(*l, true)
	}
}

// TestOwnMemory checks that results share no memory with arguments or with each other, and that no argument is changed.
func TestOwnMemory(t *testing.T) {
	p, s := parsed(t, ring, 0, 2)
	s.Locked[1], s.Earthed[3] = true, true
	kept, q := changed(s), plantOf(t)
	l := []paths.Transfer{{Watch: 2, Open: -1, Close: 2}, {Watch: 1, Open: 3, Close: 0}, {Watch: 2, Open: 1, Close: 2}}
	keptTransfers := slices.Clone(l)
	parts := []api.Part{link(3), link(3), bus(4)}
	way := []api.Part{source(0), bus(0), link(5), bus(5)}
	ways := [][]api.Part{slices.Clone(way)}
	same := func(name string) {
		t.Helper()
		if !sameState(s, kept) || !slices.Equal(l, keptTransfers) || !slices.Equal(parts, []api.Part{link(3), link(3), bus(4)}) || !slices.Equal(ways[0], way) {
			t.Fatal(name, "an argument was changed")
		}
		sameLink := func(a, b api.Link) bool {
			return a.A == b.A && a.B == b.B && a.Kind == b.Kind && a.Most == b.Most && a.Ohm == b.Ohm && slices.Equal(a.Trip, b.Trip)
		}
		if !slices.EqualFunc(p.Links, q.Links, sameLink) || !slices.Equal(p.Sources, q.Sources) || !slices.Equal(p.Racks, q.Racks) {
			t.Fatal(name, "the plant was changed")
		}
	}
	for _, transfers := range [][]paths.Transfer{nil, l[:1], l} {
		u, order, _ := paths.Settle(p, s, transfers)
		spoilState(u)
		spoil(order, -7)
		same("Settle")
		for n := range len(parts) + 1 {
			u, _ = paths.After(p, s, transfers, parts[:n])
			spoilState(u)
			same("After")
			racks, _ := paths.Dark(p, s, transfers, parts[:n])
			spoil(racks, -7)
			same("Dark")
		}
		breaches, _ := paths.Promise(p, s, transfers)
		spoil(breaches, paths.Breach{Rack: -7})
		same("Promise")
		failures, _ := paths.Weak(p, s, transfers, true)
		ownLists(t, failures)
		same("Weak")
	}
	for rack := range p.Racks {
		found, _ := paths.Ways(p, s, rack)
		ownLists(t, found)
		critical, _ := paths.Critical(p, s, rack)
		spoil(critical, api.Part{})
		if paths.CheckWays(p, s, rack, ways) != api.OK && rack > 2 {
			t.Error("rack", rack)
		}
		same("Ways, Critical and CheckWays")
	}
}

// ownLists checks that lists share no memory with each other.
func ownLists(t *testing.T, list [][]api.Part) {
	t.Helper()
	kept := make([][]api.Part, len(list))
	for i := range list {
		kept[i] = slices.Clone(list[i])
	}
	for i := range list {
		spoil(list[i], api.Part{})
		for k := i + 1; k < len(list); k++ {
			if !slices.Equal(list[k], kept[k]) {
				t.Error("lists share memory", i, k)
			}
		}
	}
}

// TestAgain checks that the same arguments have the same results.
func TestAgain(t *testing.T) {
	r := rand.New(rand.NewPCG(5, 9))
	for range 200 {
		p := randomPlant(r)
		s := randomState(r, t, p, 90)
		l := randomTransfers(r, p, 4)
		ways, _ := paths.Ways(p, s, 0)
		failures, _ := paths.Weak(p, s, l, true)
		for range 3 {
			again, _ := paths.Ways(p, s, 0)
			if failuresAgain, _ := paths.Weak(p, s, l, true); !sameLists(ways, again) || !sameLists(failures, failuresAgain) {
				t.Fatal(ways, again, failures, failuresAgain)
			}
		}
	}
}
