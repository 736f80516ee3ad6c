package guard_test

import (
	"math/rand/v2"
	"slices"
	"testing"

	"switchgear/api"
	"switchgear/flow"
	"switchgear/guard"
	"switchgear/plant"
)

// currents returns the sum of all shorts of a fault, and the current of each link.
func currents(t *testing.T, p api.Plant, s api.State, bus int) (int, []int) {
	t.Helper()
	shorts, e := flow.Shorts(p, s, bus)
	if e != api.OK {
		t.Fatal(e)
	}
	amps, e := flow.Through(p, shorts)
	if e != api.OK {
		t.Fatal(e)
	}
	sum := 0
	for _, x := range shorts {
		sum += x.Amps
	}
	return sum, amps
}

// delay returns the delay of a breaker of a valid state, which is above 0 just if it is armed.
func delay(p api.Plant, s api.State, link, amps int) int {
	millis := 0
	for _, x := range p.Links[link].Trip {
		if x.Amps <= amps && s.Closed[link] && !s.BadLink[link] {
			millis = x.Millis
		}
	}
	return millis
}

// played plays a fault millisecond by millisecond: it knows nothing of rounds.
func played(t *testing.T, p api.Plant, s api.State, bus int) guard.Clearing {
	t.Helper()
	x := guard.Clearing{State: copyState(s)}
	sum, amps := currents(t, p, x.State, bus)
	age := make([]int, len(p.Links))
	for now := 0; sum > 0; {
		armed, moved := false, false
		for i := range p.Links {
			millis := delay(p, x.State, i, amps[i])
			if armed = armed || millis > 0; millis > 0 && age[i] >= millis {
				x.Events = append(x.Events, guard.Event{Millis: now, Link: i})
				x.State.Closed[i] = false
				x.Millis, moved = now, true
			}
		}
		if !armed {
			return x
		}
		if moved {
			before := amps
			sum, amps = currents(t, p, x.State, bus)
			for i := range amps {
				if amps[i] != before[i] {
					age[i] = 0
				}
			}
			continue
		}
		now++
		for i := range age {
			age[i]++
		}
		x.Energy += sum * sum / 1000
		if sum*sum%1000 > 0 {
			x.Energy++
		}
	}
	x.Cleared = true
	return x
}

// TestClearAgainstPlay compares with a play of each millisecond.
func TestClearAgainstPlay(t *testing.T) {
	r := rand.New(rand.NewPCG(33, 34))
	several, uncleared, together := 0, 0, 0
	for range 6000 {
		p := randomPlant(r)
		s := randomState(r, t, p)
		bus := r.IntN(p.Buses)
		kept := copyState(s)
		x, e := guard.Clear(p, s, bus)
		if want := played(t, p, s, bus); e != api.OK || !same(x, want) {
			t.Fatalf("%+v %+v: bus %d: %+v %d, not %+v", p, s, bus, x, e, want)
		}
		if !sameState(s, kept) {
			t.Fatal("the state was changed", p, s)
		}
		for i, event := range x.Events {
			if i > 0 && event.Millis == x.Events[i-1].Millis {
				together++
			} else if i > 0 {
				several++
			}
		}
		if !x.Cleared && len(x.Events) > 0 {
			uncleared++
		}
	}
	if several < 300 || together < 50 || uncleared < 100 {
		t.Error("the plants are too simple:", several, together, uncleared)
	}
}

// TestWhatFollows checks what P3.3 says of each clearing of random plants.
func TestWhatFollows(t *testing.T) {
	r := rand.New(rand.NewPCG(35, 36))
	for range 1500 {
		p := randomPlant(r)
		s := randomState(r, t, p)
		before, _ := plant.Live(p, s)
		l, e := guard.Survey(p, s)
		if e != api.OK {
			t.Fatal(e)
		}
		for bus, x := range l {
			onlyOpened(t, p, s, x)
			after, e := plant.Live(p, x.State)
			if e != api.OK {
				t.Fatalf("%+v %+v: no valid state after bus %d: %d", p, s, bus, e)
			}
			for i := range after {
				if after[i] && !before[i] {
					t.Fatalf("%+v %+v: bus %d has become live", p, s, i)
				}
			}
			if !before[bus] && (!x.Cleared || x.Energy != 0 || len(x.Events) > 0) {
				t.Fatalf("%+v %+v: a fault at the dead bus %d: %+v", p, s, bus, x)
			}
			rests(t, p, x, bus)
		}
	}
}

// onlyOpened checks that the events are breakers that were closed and are open now, each once and in order, and that nothing else has changed.
func onlyOpened(t *testing.T, p api.Plant, s api.State, x guard.Clearing) {
	t.Helper()
	u := copyState(s)
	for i, event := range x.Events {
		if p.Links[event.Link].Kind != api.Breaker || !u.Closed[event.Link] || s.BadLink[event.Link] {
			t.Fatalf("%+v %+v: event %d of %+v", p, s, i, x)
		}
		u.Closed[event.Link] = false
		if i == 0 {
			continue
		}
		if y := x.Events[i-1]; y.Millis > event.Millis || y.Millis == event.Millis && y.Link > event.Link {
			t.Fatalf("%+v %+v: no order in %+v", p, s, x)
		}
	}
	last := 0
	if len(x.Events) > 0 {
		last = x.Events[len(x.Events)-1].Millis
	}
	if !sameState(u, x.State) || x.Millis != last {
		t.Fatalf("%+v %+v: %+v", p, s, x)
	}
}

// rests checks that a fault that is cleared is without current, and stays so whatever else opens; and that one that is not cleared has no breaker that is armed.
func rests(t *testing.T, p api.Plant, x guard.Clearing, bus int) {
	t.Helper()
	sum, amps := currents(t, p, x.State, bus)
	if x.Cleared != (sum == 0) {
		t.Fatalf("%+v %+v: %d amperes flow at %d", p, x, sum, bus)
	}
	again, e := guard.Clear(p, x.State, bus)
	if e != api.OK || again.Cleared != x.Cleared || len(again.Events) > 0 || again.Energy != 0 {
		t.Fatalf("%+v %+v: cleared again: %+v", p, x, again)
	}
	for i := range p.Links {
		if delay(p, x.State, i, amps[i]) > 0 && !x.Cleared {
			t.Fatalf("%+v %+v: breaker %d is armed", p, x, i)
		}
		if !x.Cleared || p.Links[i].Kind == api.Cable {
			continue
		}
		if sum, _ := currents(t, p, opened(x.State, i), bus); sum != 0 {
			t.Fatalf("%+v %+v: %d amperes with %d open", p, x, sum, i)
		}
	}
}

// TestNoneBeforeItsDelay follows each event back: its breaker had had the current of the last round for all of its delay.
func TestNoneBeforeItsDelay(t *testing.T) {
	r := rand.New(rand.NewPCG(37, 38))
	for range 1500 {
		p := randomPlant(r)
		s := randomState(r, t, p)
		bus := r.IntN(p.Buses)
		x, _ := guard.Clear(p, s, bus)
		u := copyState(s)
		_, amps := currents(t, p, u, bus)
		since := make([]int, len(p.Links))
		for rest := x.Events; len(rest) > 0; {
			now := rest[0].Millis
			for len(rest) > 0 && rest[0].Millis == now {
				i := rest[0].Link
				if millis := delay(p, s, i, amps[i]); millis < 1 || now-since[i] < millis {
					t.Fatalf("%+v %+v: breaker %d with %d for %d milliseconds: %+v", p, s, i, amps[i], now-since[i], x)
				}
				u.Closed[i] = false
				rest = rest[1:]
			}
			before := slices.Clone(amps)
			_, amps = currents(t, p, u, bus)
			for i := range amps {
				if amps[i] != before[i] {
					since[i] = now
				}
			}
		}
	}
}
