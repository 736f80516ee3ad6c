package guard_test

import (
	"math"
	"math/rand/v2"
	"slices"
	"testing"

	"switchgear/api"
	"switchgear/guard"
)

// all calls every function that has an error; with an error every other result must be zero.
func all(t *testing.T, p api.Plant, s api.State, bus int) map[string]api.Errno {
	t.Helper()
	x, clear := guard.Clear(p, s, bus)
	ok, selective := guard.Selective(p, s, bus)
	l, survey := guard.Survey(p, s)
	worst, energy, greatest := guard.Worst(p, s)
	racks, dark := guard.Lost(p, s, bus)
	for _, c := range []struct {
		name string
		e    api.Errno
		zero bool
	}{
		{"Clear", clear, zero(x)},
		{"Selective", selective, !ok},
		{"Survey", survey, len(l) == 0},
		{"Worst", greatest, worst == 0 && energy == 0},
		{"Lost", dark, len(racks) == 0},
	} {
		if c.e != api.OK && !c.zero {
			t.Errorf("%s: a result with the error %d", c.name, c.e)
		}
	}
	return map[string]api.Errno{"Clear": clear, "Selective": selective, "Survey": survey, "Worst": greatest, "Lost": dark}
}

// TestErrorsOfAll checks that the errors of plants and states come first, and then that of the bus.
func TestErrorsOfAll(t *testing.T) {
	p, s := parsed(t, chapter)
	for name, e := range all(t, p, s, 2) {
		if e != api.OK {
			t.Error(name, e)
		}
	}
	for _, bus := range []int{-1, 3, 24, math.MinInt, math.MaxInt} {
		for name, e := range all(t, p, s, bus) {
			if takes := name != "Survey" && name != "Worst"; takes && e != api.ErrArg || !takes && e != api.OK {
				t.Error(name, bus, e)
			}
		}
	}
	for i := range lists(&s) {
		for _, change := range []func(l []bool) []bool{
			func(l []bool) []bool { return nil }, func(l []bool) []bool { return l[1:] }, func(l []bool) []bool { return append(l, false) },
		} {
			u := copyState(s)
			list := lists(&u)[i]
			*list = change(*list)
			for name, e := range all(t, p, u, -1) {
				if e != api.ErrState {
					t.Error(name, i, e)
				}
			}
		}
	}
	for i, change := range []func(p *api.Plant){
		func(p *api.Plant) { p.Buses = 25 }, func(p *api.Plant) { p.Sources[0].Power = 0 }, func(p *api.Plant) { p.Links[0].Kind = api.Cable }, func(p *api.Plant) { p.Racks[0].Paths = 2 },
	} {
		q, _ := parsed(t, chapter)
		change(&q)
		for name, e := range all(t, q, api.State{}, -1) {
			if e != api.ErrBus+api.Errno(i) {
				t.Error(name, e)
			}
		}
	}
	p, s = parsed(t, ring)
	s.Closed[4] = false
	for name, e := range all(t, p, s, 7) {
		if e != api.ErrState {
			t.Error("an open cable:", name, e)
		}
	}
}

// TestTripsOfClear checks that only plants with trips that are allowed are cleared.
func TestTripsOfClear(t *testing.T) {
	for _, trips := range [][]api.Trip{
		{{Amps: 0, Millis: 1}}, {{Amps: 1, Millis: 0}}, {{Amps: 1, Millis: 100001}}, {{Amps: 1000001, Millis: 1}}, {{Amps: 1, Millis: 2}, {Amps: 1, Millis: 1}}, {{Amps: 1, Millis: 2}, {Amps: 2, Millis: 2}}, make([]api.Trip, 7),
	} {
		p, s := parsed(t, chapter)
		p.Links[0].Trip = trips
		for name, e := range all(t, p, s, 2) {
			if e != api.ErrLink {
				t.Error(trips, name, e)
			}
		}
	}
}

// TestOddArguments calls everything with arguments that are mostly wrong: nothing may panic.
func TestOddArguments(t *testing.T) {
	r := rand.New(rand.NewPCG(39, 40))
	odd := []int{math.MinInt, -100001, -2, -1, 0, 1, 2, 3, 8, 24, 25, 100000, math.MaxInt}
	pick := func() int { return odd[r.IntN(len(odd))] }
	for range 5000 {
		p, s := parsed(t, ring)
		for _, l := range lists(&s) {
			switch r.IntN(12) {
			case 0:
				*l = make([]bool, r.IntN(7))
			case 1:
				(*l)[0] = !(*l)[0]
			}
		}
		numbers := []*int{&p.Buses, &p.Sources[0].Bus, &p.Sources[0].Power, &p.Sources[0].Ohm, &p.Links[0].A, &p.Links[0].B, &p.Links[0].Most, &p.Links[1].Ohm, &p.Links[1].Trip[0].Amps, &p.Links[1].Trip[0].Millis, &p.Links[0].Trip[1].Millis, &p.Racks[0].Feeds[0], &p.Racks[1].Feeds[1], &p.Racks[0].Power}
		for range r.IntN(3) {
			*numbers[r.IntN(len(numbers))] = pick()
		}
		all(t, p, s, pick())
		guard.Delay(p.Links[0], pick())
		if t.Failed() {
			t.Fatalf("%+v %+v", p, s)
		}
	}
}

// spoil changes all that a clearing holds, and what may stand behind its lists.
func spoil(x guard.Clearing) {
	for i := range x.Events {
		x.Events[i] = guard.Event{Millis: -7, Link: -7}
	}
	_ = append(x.Events, guard.Event{Millis: -7, Link: -7})
	for _, l := range lists(&x.State) {
		for i := range *l {
			(*l)[i] = !(*l)[i]
		}
		_ = append(*l, true)
	}
}

// TestOwnMemory checks that results share no memory with arguments or with each other, that no argument is changed, and that the same arguments have the same results.
func TestOwnMemory(t *testing.T) {
	p, s := parsed(t, ring)
	s.Locked[1], s.Earthed[4] = true, true
	q, kept := parsed(t, ring)
	kept.Locked[1], kept.Earthed[4] = true, true
	want, _ := guard.Survey(p, s)
	for i := range want {
		want[i].State = copyState(want[i].State)
	}
	first, _ := guard.Survey(p, s)
	for bus := range first {
		spoil(first[bus])
		if !sameState(s, kept) {
			t.Fatal("a survey shares memory with the state", bus)
		}
		x, _ := guard.Clear(p, s, bus)
		if spoil(x); !sameState(s, kept) {
			t.Fatal("a clearing shares memory with the state", bus)
		}
		racks, _ := guard.Lost(p, s, bus)
		for i := range racks {
			racks[i] = -7
		}
		guard.Selective(p, s, bus)
		for other := bus + 1; other < len(first); other++ {
			if !same(first[other], want[other]) {
				t.Error("clearings share memory", bus, other)
			}
		}
	}
	guard.Worst(p, s)
	if again, _ := guard.Survey(p, s); !slices.EqualFunc(again, want, same) {
		t.Error(again, want)
	}
	sameLink := func(a, b api.Link) bool {
		return a.A == b.A && a.B == b.B && a.Kind == b.Kind && a.Most == b.Most && a.Ohm == b.Ohm && slices.Equal(a.Trip, b.Trip)
	}
	if !sameState(s, kept) || !slices.EqualFunc(p.Links, q.Links, sameLink) || !slices.Equal(p.Sources, q.Sources) || !slices.Equal(p.Racks, q.Racks) {
		t.Error("an argument was changed")
	}
}
