package plant_test

import (
	"math"
	"slices"
	"testing"

	"switchgear/api"
	"switchgear/plant"
)

func TestParts(t *testing.T) {
	l, e := plant.Parts(chapter())
	want := []api.Part{
		{Kind: api.BusPart, Index: 0}, {Kind: api.BusPart, Index: 1}, {Kind: api.BusPart, Index: 2},
		{Kind: api.SourcePart, Index: 0}, {Kind: api.SourcePart, Index: 1},
		{Kind: api.LinkPart, Index: 0}, {Kind: api.LinkPart, Index: 1},
	}
	if e != api.OK || !slices.Equal(l, want) {
		t.Error(l, e)
	}
	if l, e := plant.Parts(api.Plant{Buses: 1}); e != api.OK || !slices.Equal(l, want[:1]) {
		t.Error("a single bus", l, e)
	}
	if l, e := plant.Parts(api.Plant{}); e != api.ErrBus || len(l) != 0 {
		t.Error("no bus", l, e)
	}
}

// failed returns the flag of a part in a state.
func failed(s api.State, x api.Part) *bool {
	switch x.Kind {
	case api.BusPart:
		return &s.BadBus[x.Index]
	case api.SourcePart:
		return &s.BadSource[x.Index]
	}
	return &s.BadLink[x.Index]
}

func TestBreakAndMend(t *testing.T) {
	p := mixed()
	parts, _ := plant.Parts(p)
	if len(parts) != 12 {
		t.Fatal(parts)
	}
	for _, other := range []bool{false, true} {
		for _, x := range parts {
			s := start(t, p, 1, 3)
			for _, y := range parts {
				*failed(s, y) = other
			}
			s.Locked[3], s.Earthed[4] = true, true
			change(t, p, s, x)
		}
	}
}

// change breaks and mends a part that has failed, and one that has not, and checks that nothing else is changed.
func change(t *testing.T, p api.Plant, s api.State, x api.Part) {
	t.Helper()
	for _, before := range []bool{false, true} {
		*failed(s, x) = before
		kept := copyState(s)
		broken, e := plant.Break(p, s, x)
		if e != api.OK || !*failed(broken, x) {
			t.Error("Break", x, broken, e)
		}
		mended, e := plant.Mend(p, s, x)
		if e != api.OK || *failed(mended, x) {
			t.Error("Mend", x, mended, e)
		}
		if !sameState(s, kept) {
			t.Error("the argument was changed", x)
		}
		*failed(broken, x), *failed(mended, x) = before, before
		if !sameState(broken, s) || !sameState(mended, s) {
			t.Error("something else was changed", x)
		}
		for _, u := range []api.State{broken, mended} {
			for _, l := range lists(&u) {
				for i := range *l {
					(*l)[i] = !(*l)[i]
				}
			}
			if !sameState(s, kept) {
				t.Error("a result shares memory with the argument", x)
			}
		}
	}
}

func TestBreakAndMendErrors(t *testing.T) {
	p := mixed()
	s := start(t, p, 1)
	none := []api.Part{
		{}, {Kind: -1}, {Kind: 4}, {Kind: math.MaxInt, Index: 1},
		{Kind: api.BusPart, Index: -1}, {Kind: api.BusPart, Index: 5},
		{Kind: api.SourcePart, Index: -1}, {Kind: api.SourcePart, Index: 3},
		{Kind: api.LinkPart, Index: -1}, {Kind: api.LinkPart, Index: 4},
		{Kind: api.LinkPart, Index: math.MaxInt}, {Kind: api.BusPart, Index: math.MinInt},
	}
	bad := p
	bad.Buses = 0
	wrong := copyState(s)
	wrong.Closed[0] = false
	for _, call := range []func(api.Plant, api.State, api.Part) (api.State, api.Errno){plant.Break, plant.Mend} {
		for _, x := range none {
			if u, e := call(p, s, x); e != api.ErrPart || !zeroState(u) {
				t.Error(x, u, e)
			}
			if u, e := call(p, wrong, x); e != api.ErrState || !zeroState(u) {
				t.Error("the state's error comes before", x, u, e)
			}
			if u, e := call(bad, wrong, x); e != api.ErrBus || !zeroState(u) {
				t.Error("the plant's error comes before", x, u, e)
			}
		}
	}
}
