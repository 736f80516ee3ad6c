package plant_test

import (
	"math"
	"math/rand/v2"
	"slices"
	"testing"

	"switchgear/api"
	"switchgear/plant"
)

// all calls every function with a plant and a state, and returns their errors; with an error every other result must be zero.
func all(t *testing.T, p api.Plant, s api.State, x api.Part, text string) map[string]api.Errno {
	t.Helper()
	errors := map[string]api.Errno{}
	note := func(name string, zero bool, e api.Errno) {
		t.Helper()
		errors[name] = e
		if e != api.OK && !zero {
			t.Errorf("%s: a result with the error %d", name, e)
		}
	}
	note("Check", true, plant.Check(p))
	note("CheckState", true, plant.CheckState(p, s))
	initial, e := plant.Initial(p)
	note("Initial", zeroState(initial), e)
	islands, e := plant.Islands(p, s)
	note("Islands", len(islands) == 0, e)
	live, e := plant.Live(p, s)
	note("Live", len(live) == 0, e)
	fed, e := plant.Fed(p, s)
	note("Fed", len(fed) == 0, e)
	clashes, e := plant.Clashes(p, s)
	note("Clashes", len(clashes) == 0, e)
	parts, e := plant.Parts(p)
	note("Parts", len(parts) == 0, e)
	u, e := plant.Break(p, s, x)
	note("Break", zeroState(u), e)
	u, e = plant.Mend(p, s, x)
	note("Mend", zeroState(u), e)
	written, e := plant.Format(p)
	note("Format", written == "", e)
	shown, e := plant.Show(p, s)
	note("Show", shown == "", e)
	u, e = plant.Read(p, text)
	note("Read", zeroState(u), e)
	return errors
}

// TestErrorsOfAll checks that the functions that take a state return the errors of CheckState, and the others those of Check.
func TestErrorsOfAll(t *testing.T) {
	p := chapter()
	s := start(t, p, 0)
	text, _ := plant.Show(p, s)
	short := copyState(s)
	short.BadBus = nil
	x := api.Part{Kind: api.BusPart, Index: 2}
	for name, e := range all(t, p, s, x, text) {
		if e != api.OK {
			t.Error(name, e)
		}
	}
	states := []string{"CheckState", "Islands", "Live", "Fed", "Clashes", "Break", "Mend", "Show"}
	for name, e := range all(t, p, short, x, text) {
		if want := slices.Contains(states, name); want != (e == api.ErrState) || !want && e != api.OK {
			t.Error(name, e)
		}
	}
	for i, change := range []func(p *api.Plant){
		func(p *api.Plant) { p.Buses = 25 }, func(p *api.Plant) { p.Sources[0].Power = 0 }, func(p *api.Plant) { p.Links[0].Ohm = 9 }, func(p *api.Plant) { p.Racks[0].Paths = 2 },
	} {
		q := chapter()
		change(&q)
		for name, e := range all(t, q, short, api.Part{}, "") {
			if e != api.ErrBus+api.Errno(i) {
				t.Error(name, e)
			}
		}
	}
}

// TestOddArguments calls everything with arguments that are mostly wrong: nothing may panic.
func TestOddArguments(t *testing.T) {
	r := rand.New(rand.NewPCG(5, 5))
	odd := []int{math.MinInt, -2, -1, 0, 1, 2, 3, 10, 24, 25, 100000, math.MaxInt}
	pick := func() int { return odd[r.IntN(len(odd))] }
	for range 20000 {
		p := chapter()
		s := start(t, p, r.IntN(2))
		for _, l := range lists(&s) {
			if r.IntN(8) == 0 {
				*l = make([]bool, r.IntN(5))
			}
		}
		numbers := []*int{
			&p.Buses, &p.Sources[0].Bus, (*int)(&p.Sources[0].Kind), &p.Sources[1].Power, &p.Sources[1].Sync, &p.Sources[0].Ohm,
			&p.Links[0].A, &p.Links[0].B, (*int)(&p.Links[1].Kind), &p.Links[0].Most, &p.Links[0].Trip[0].Amps, &p.Links[0].Trip[1].Millis,
			&p.Racks[0].Feeds[0], &p.Racks[0].Feeds[1], &p.Racks[0].Power, &p.Racks[0].Paths,
		}
		for range r.IntN(3) {
			*numbers[r.IntN(len(numbers))] = pick()
		}
		all(t, p, s, api.Part{Kind: api.PartKind(pick()), Index: pick()}, "on 11\n")
		if t.Failed() {
			t.Fatalf("%+v %+v", p, s)
		}
	}
	for range 2000 {
		b := make([]byte, r.IntN(200))
		for i := range b {
			b[i] = byte(r.IntN(256))
		}
		if p, _, e := plant.Parse(string(b)); e != api.ErrForm || !samePlant(p, api.Plant{}) {
			t.Fatalf("%q %d", b, e)
		}
		all(t, chapter(), api.State{}, api.Part{}, string(b))
	}
}
