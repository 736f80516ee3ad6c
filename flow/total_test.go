package flow_test

import (
	"math"
	"math/rand/v2"
	"slices"
	"testing"

	"switchgear/api"
	"switchgear/flow"
)

// call is what one function returned: its error, and whether every other result was zero.
type call struct {
	e    api.Errno
	zero bool
}

// all calls every function that has an error; with an error every other result must be zero.
func all(t *testing.T, p api.Plant, s api.State, x flow.Serving, cut []bool, bus int, l []flow.Short) map[string]api.Errno {
	t.Helper()
	calls := map[string]call{}
	y, least, e := flow.Serve(p, s)
	calls["Serve"] = call{e, zeroServing(y) && len(least) == 0}
	calls["CheckServing"] = call{flow.CheckServing(p, s, x), true}
	n, e := flow.Capacity(p, s, cut)
	calls["Capacity"] = call{e, n == 0}
	calls["Certify"] = call{flow.Certify(p, s, x, cut), true}
	parts, e := flow.Tight(p, s)
	calls["Tight"] = call{e, len(parts) == 0}
	full, e := flow.Full(p, s)
	calls["Full"] = call{e, !full}
	shorts, e := flow.Shorts(p, s, bus)
	calls["Shorts"] = call{e, len(shorts) == 0}
	sums, e := flow.Through(p, l)
	calls["Through"] = call{e, len(sums) == 0}
	flow.Amount(x)
	errors := map[string]api.Errno{}
	for name, c := range calls {
		errors[name] = c.e
		if c.e != api.OK && !c.zero {
			t.Errorf("%s: a result with the error %d", name, c.e)
		}
	}
	return errors
}

// TestErrorsOfAll checks that the errors of plants and states come first, whatever the other arguments are.
func TestErrorsOfAll(t *testing.T) {
	p := chapter(100)
	s := start(t, p)
	x, cut, _ := flow.Serve(p, s)
	for name, e := range all(t, p, s, x, cut, 1, nil) {
		if e != api.OK {
			t.Error(name, e)
		}
	}
	for i := range lists(&s) {
		for _, change := range []func(l []bool) []bool{
			func(l []bool) []bool { return nil }, func(l []bool) []bool { return l[1:] }, func(l []bool) []bool { return append(l, false) },
		} {
			u := copyState(s)
			list := lists(&u)[i]
			*list = change(*list)
			for name, e := range all(t, p, u, flow.Serving{}, nil, -1, nil) {
				if e != api.ErrState && name != "Through" || e != api.OK && name == "Through" {
					t.Error(name, i, e)
				}
			}
		}
	}
	for i, change := range []func(p *api.Plant){
		func(p *api.Plant) { p.Buses = 25 }, func(p *api.Plant) { p.Sources[0].Power = 0 }, func(p *api.Plant) { p.Links[0].Ohm = 9 }, func(p *api.Plant) { p.Racks[0].Paths = 2 },
	} {
		q := chapter(100)
		change(&q)
		for name, e := range all(t, q, api.State{}, flow.Serving{}, nil, -1, make([]flow.Short, 9)) {
			if e != api.ErrBus+api.Errno(i) {
				t.Error(name, e)
			}
		}
	}
	p.Links[0].Kind, p.Links[0].Trip = api.Cable, nil
	s.Closed[0] = false
	for name, e := range all(t, p, s, x, cut, 1, nil) {
		if (e != api.ErrState) != (name == "Through") {
			t.Error("an open cable:", name, e)
		}
	}
}

// TestOddArguments calls everything with arguments that are mostly wrong: nothing may panic.
func TestOddArguments(t *testing.T) {
	r := rand.New(rand.NewPCG(17, 18))
	odd := []int{math.MinInt, -100001, -2, -1, 0, 1, 2, 3, 8, 24, 25, 100000, math.MaxInt}
	pick := func() int { return odd[r.IntN(len(odd))] }
	picks := func(most int) []int {
		l := make([]int, r.IntN(most+1))
		for i := range l {
			l[i] = pick()
		}
		return l
	}
	for range 5000 {
		p := chapter(100, 300)
		p.Racks[1].Feeds[1] = 2
		s := start(t, p)
		for _, l := range lists(&s) {
			switch r.IntN(12) {
			case 0:
				*l = make([]bool, r.IntN(5))
			case 1:
				(*l)[0] = !(*l)[0]
			}
		}
		numbers := []*int{&p.Buses, &p.Sources[0].Bus, &p.Sources[1].Power, &p.Sources[0].Ohm, &p.Links[0].A, &p.Links[0].B, &p.Links[0].Most, &p.Links[1].Ohm, &p.Racks[0].Feeds[0], &p.Racks[0].Feeds[1], &p.Racks[0].Power}
		for range r.IntN(3) {
			*numbers[r.IntN(len(numbers))] = pick()
		}
		x := flow.Serving{Sources: picks(3), Links: picks(3)}
		for range r.IntN(4) {
			x.Racks = append(x.Racks, [2]int{pick(), pick()})
		}
		var l []flow.Short
		for range r.IntN(10) {
			l = append(l, flow.Short{Source: pick(), Ohm: pick(), Amps: pick(), Links: picks(3)})
		}
		all(t, p, s, x, slices.Repeat([]bool{r.IntN(2) == 0}, r.IntN(5)), pick(), l)
		if t.Failed() {
			t.Fatalf("%+v %+v", p, s)
		}
	}
}

// TestOwnMemory checks that results share no memory with arguments or with each other, that no argument is changed, and that the same arguments have the same results.
func TestOwnMemory(t *testing.T) {
	p, s, x := ring(t)
	p.Racks[0].Power = 200
	kept, keptServing, keptLinks := copyState(s), copyServing(x), slices.Clone(p.Links)
	cut := []bool{true, true, false, false}
	type results struct {
		x      flow.Serving
		cut    []bool
		parts  []api.Part
		shorts []flow.Short
		sums   []int
	}
	get := func() results {
		var l results
		l.x, l.cut, _ = flow.Serve(p, s)
		l.parts, _ = flow.Tight(p, s)
		l.shorts, _ = flow.Shorts(p, s, 1)
		l.sums, _ = flow.Through(p, l.shorts)
		flow.CheckServing(p, s, x)
		flow.Capacity(p, s, cut)
		flow.Certify(p, s, x, cut)
		return l
	}
	first := get()
	want := get()
	for _, l := range [][]int{first.x.Sources, first.x.Links, first.sums} {
		for i := range l {
			l[i] = -7
		}
		_ = append(l, -7)
	}
	for i := range first.cut {
		first.cut[i] = !first.cut[i]
	}
	for i := range first.x.Racks {
		first.x.Racks[i] = [2]int{-7, -7}
	}
	for i := range first.parts {
		first.parts[i] = api.Part{}
	}
	links := slices.Clone(want.shorts[0].Links)
	for i := range first.shorts {
		for k := range first.shorts[i].Links {
			first.shorts[i].Links[k] = -7
		}
		_ = append(first.shorts[i].Links, -7)
	}
	again := get()
	if !slices.Equal(again.x.Sources, want.x.Sources) || !slices.Equal(again.x.Links, want.x.Links) || !slices.Equal(again.x.Racks, want.x.Racks) || !slices.Equal(again.cut, want.cut) ||
		!slices.Equal(again.parts, want.parts) || !slices.EqualFunc(again.shorts, want.shorts, sameShort) || !slices.Equal(again.sums, want.sums) || !slices.Equal(links, want.shorts[0].Links) {
		t.Error(again, want)
	}
	same := func(a, b api.Link) bool { return a.A == b.A && a.B == b.B && a.Most == b.Most && a.Ohm == b.Ohm }
	if !sameState(s, kept) || !slices.EqualFunc(p.Links, keptLinks, same) || !slices.Equal(cut, []bool{true, true, false, false}) {
		t.Error("an argument was changed")
	}
	if !slices.Equal(x.Sources, keptServing.Sources) || !slices.Equal(x.Links, keptServing.Links) || !slices.Equal(x.Racks, keptServing.Racks) {
		t.Error("a serving was changed")
	}
}

// TestThroughKeepsArguments gives Through a list that is not in order.
func TestThroughKeepsArguments(t *testing.T) {
	p := wired(3, [2]int{0, 1}, [2]int{1, 2}, [2]int{0, 2})
	links := []int{2, 0, 2, 1}
	l := []flow.Short{{Source: 3, Ohm: 4, Amps: 5, Links: links}}
	if _, e := flow.Through(p, l); e != api.OK || !slices.Equal(links, []int{2, 0, 2, 1}) || !sameShort(l[0], flow.Short{Source: 3, Ohm: 4, Amps: 5, Links: links}) {
		t.Error(l, e)
	}
}

// TestFullPlantIsQuick calls everything for the greatest plant, at each bus: a search whose work grows with the powers or the number of ways would not end.
func TestFullPlantIsQuick(t *testing.T) {
	p := fullPlant()
	s := start(t, p)
	for bus := range p.Buses {
		l, e := flow.Shorts(p, s, bus)
		if len(l) != api.MaxSources || e != api.OK {
			t.Fatal(l, e)
		}
		if sums, e := flow.Through(p, l); len(sums) != api.MaxLinks || e != api.OK {
			t.Fatal(sums, e)
		}
	}
}
