package heat_test

import (
	"iter"
	"math/rand/v2"
	"slices"
	"testing"

	"switchgear/api"
	"switchgear/heat"
)

// notLower returns temperatures and a case that are not lower than others, alone and together; its pump is not stronger.
func notLower(r *rand.Rand, w world, now []int, c heat.Case) ([]int, heat.Case) {
	now, c = slices.Clone(now), copiedCase(c)
	for i := range now {
		now[i] = from(r, now[i], min(heat.MaxKelvin, now[i]+from(r, 0, 20)*r.IntN(2)))
		c.Load[i] += from(r, 0, 20) * r.IntN(2)
	}
	c.Out = from(r, c.Out, w.base+60)
	c.Pump = from(r, 0, c.Pump)
	return now, c
}

// TestMonotone checks that no next temperature is lower with temperatures, loads and outside temperatures that are not lower, and a pump that is not stronger.
func TestMonotone(t *testing.T) {
	r := rand.New(rand.NewPCG(7, 7))
	met := 0
	for range 20000 {
		w := randomWorld(r)
		now, c := w.temperatures(r), w.happening(r)
		hotter, worse := notLower(r, w, now, c)
		l := nexted(t, w.Hall, now, c)
		load, out, pump := c, c, c
		load.Load, out.Out, pump.Pump = worse.Load, worse.Out, worse.Pump
		for name, x := range map[string][]int{
			"temperatures": nexted(t, w.Hall, hotter, c),
			"loads":        nexted(t, w.Hall, now, load),
			"outside":      nexted(t, w.Hall, now, out),
			"pump":         nexted(t, w.Hall, now, pump),
			"all of it":    nexted(t, w.Hall, hotter, worse),
		} {
			if greater(l, x) {
				t.Fatalf("%s: %+v %v %+v, %v %+v: %v, then %v", name, w, now, c, hotter, worse, l, x)
			}
			if greater(x, l) {
				met++
			}
		}
	}
	if met < 10000 {
		t.Error("met:", met)
	}
}

// TestWithinBounds checks that whatever cases of a class come, the temperatures stay between the bounds, and no room is too hot before Ride has passed.
func TestWithinBounds(t *testing.T) {
	r := rand.New(rand.NewPCG(7, 8))
	rides := 0
	for range 3000 {
		w := randomWorld(r)
		low, high := w.box(r)
		k, n := w.class(r), from(r, 1, 10)
		if r.IntN(2) > 0 {
			for i := range w.Rooms {
				w.Rooms[i].Limit = min(heat.MaxKelvin, high[i]+from(r, 0, 90))
			}
		}
		lows, highs, e := heat.Bounds(w.Hall, low, high, k, n)
		ride, room, e2 := heat.Ride(w.Hall, high, k, n)
		if e != api.OK || e2 != api.OK {
			t.Fatal(w, e, e2)
		}
		if room >= 0 && ride > 0 {
			rides++
		}
		for range 5 {
			cases := make([]heat.Case, n)
			for i := range cases {
				cases[i] = member(r, k)
				if ok, e := heat.Belongs(w.Hall, k, cases[i]); !ok || e != api.OK {
					t.Fatal(k, cases[i], ok, e)
				}
			}
			l, _ := heat.Run(w.Hall, between(r, low, high), cases)
			for i, now := range l {
				if greater(lows[i], now) || greater(now, highs[i]) {
					t.Fatalf("%+v %v %v %+v %+v: %v in second %d, not from %v to %v", w, low, high, k, cases, now, i, lows[i], highs[i])
				}
				if i+1 < ride && hottest(w.Hall, now) >= 0 {
					t.Fatalf("%+v %v %+v %+v: %v in second %d, before %d", w, high, k, cases, now, i+1, ride)
				}
			}
		}
		if room >= 0 && ride > 0 && hottest(w.Hall, highs[ride-1]) != room {
			t.Fatalf("%+v %v %+v: %v in second %d, not room %d", w, high, k, highs[ride-1], ride, room)
		}
	}
	if rides < 300 {
		t.Error("met:", rides)
	}
}

// lists yields all lists with numbers from those of low to those of high.
func lists(low, high []int) iter.Seq[[]int] {
	return func(yield func([]int) bool) {
		now := slices.Clone(low)
		for {
			if !yield(slices.Clone(now)) {
				return
			}
			i := 0
			for ; i < len(now) && now[i] == high[i]; i++ {
				now[i] = low[i]
			}
			if i == len(now) {
				return
			}
			now[i]++
		}
	}
}

// keeps reports whether a box is held, by the chapter's words: for all its temperatures, and for all cases of the class.
func keeps(h heat.Hall, low, high []int, k heat.Class) bool {
	for now := range lists(low, high) {
		for load := range lists(k.Low.Load, k.High.Load) {
			for out := k.Low.Out; out <= k.High.Out; out++ {
				for pump := k.High.Pump; pump <= k.Low.Pump; pump++ {
					l := tellNext(h, now, heat.Case{Load: load, Out: out, Pump: pump})
					if greater(low, l) || greater(l, high) {
						return false
					}
				}
			}
		}
	}
	return true
}

// TestHeldForAll compares with all temperatures of small boxes, and all cases of small classes.
func TestHeldForAll(t *testing.T) {
	r := rand.New(rand.NewPCG(7, 9))
	met := [4]int{}
	for range 4000 {
		w := randomWorld(r)
		if len(w.Rooms) > 2 {
			continue
		}
		k := alone(w.happening(r))
		k.High = copiedCase(k.High)
		for i := range k.Low.Load {
			k.Low.Load[i] = from(r, 0, 12)
			k.High.Load[i] = k.Low.Load[i] + from(r, 0, 2)
		}
		k.High.Out = min(heat.MaxKelvin, k.Low.Out+from(r, 0, 2))
		k.High.Pump = max(0, k.Low.Pump-from(r, 0, 2))
		low := w.temperatures(r)
		high := slices.Clone(low)
		for i := range high {
			high[i] = min(heat.MaxKelvin, low[i]+from(r, 0, 8))
		}
		want := keeps(w.Hall, low, high, k)
		held(t, "random", w.Hall, low, high, k, want)
		down := greater(low, nexted(t, w.Hall, low, k.Low))
		up := greater(nexted(t, w.Hall, high, k.High), high)
		if want == (down || up) {
			t.Fatalf("%+v %v %v %+v: the corners tell something else", w, low, high, k)
		}
		switch {
		case want:
			met[0]++
		case down && up:
			met[1]++
		case down:
			met[2]++
		default:
			met[3]++
		}
	}
	if slices.Min(met[:]) < 50 {
		t.Error("met:", met)
	}
}

// TestHeldStays checks that temperatures of a box that is held stay in it.
func TestHeldStays(t *testing.T) {
	r := rand.New(rand.NewPCG(7, 10))
	met := 0
	for range 6000 {
		w := randomWorld(r)
		low, high := w.box(r)
		k := w.class(r)
		for range r.IntN(4) {
			low, _ = sorted(low, nexted(t, w.Hall, low, k.Low))
			_, high = sorted(high, nexted(t, w.Hall, high, k.High))
		}
		ok, e := heat.Held(w.Hall, low, high, k)
		if e != api.OK {
			t.Fatal(e)
		}
		if !ok {
			continue
		}
		met++
		now := between(r, low, high)
		for range 10 {
			now = nexted(t, w.Hall, now, member(r, k))
			if greater(low, now) || greater(now, high) {
				t.Fatalf("%+v %v %v %+v: %v", w, low, high, k, now)
			}
		}
	}
	if met < 500 {
		t.Error("met:", met)
	}
}

// TestNotBelowZero checks that no temperature is below 0, with halls whose rooms are all but as steep as they can be.
func TestNotBelowZero(t *testing.T) {
	r := rand.New(rand.NewPCG(7, 11))
	zeros := 0
	for range 10000 {
		w := randomWorld(r)
		now := make([]int, len(w.Rooms))
		for i := range now {
			now[i] = from(r, 0, heat.MaxKelvin) * r.IntN(2)
		}
		for i := range w.Coolers {
			w.Coolers[i].Supply *= r.IntN(2)
		}
		c := heat.Case{Load: make([]int, len(now)), Pump: heat.MaxFlow}
		for _, n := range nexted(t, w.Hall, now, c) {
			if n < 0 || n > heat.MaxKelvin {
				t.Fatalf("%+v %v: %d", w, now, n)
			}
			if n == 0 {
				zeros++
			}
		}
	}
	if zeros < 1000 {
		t.Error("met:", zeros)
	}
}

// TestFlowsOfBranches checks that the branches that hang on a branch have together at most what it has, and branch 0 at most what the pump gives.
func TestFlowsOfBranches(t *testing.T) {
	r := rand.New(rand.NewPCG(7, 12))
	for range 10000 {
		w := randomWorld(r)
		pump := from(r, 0, heat.MaxFlow)
		l, e := heat.Flows(w.Hall, pump)
		if e != api.OK {
			t.Fatal(e)
		}
		sums := make([]int, len(l))
		for i, n := range l {
			if n < 0 || i == 0 && n > pump {
				t.Fatal(w, pump, l)
			}
			if i > 0 {
				sums[w.Branches[i].Up] += n
			}
		}
		if greater(sums, l) {
			t.Fatal(w, pump, l)
		}
	}
}

// TestTakenByFlow checks that the coolers of a branch take together at most what its flow can carry.
func TestTakenByFlow(t *testing.T) {
	r := rand.New(rand.NewPCG(7, 13))
	for range 10000 {
		w := randomWorld(r)
		for i := range w.Coolers {
			w.Coolers[i].Carry = 7
		}
		now, pump := w.temperatures(r), from(r, 0, 40)
		flows, _ := heat.Flows(w.Hall, pump)
		l, e := heat.Taken(w.Hall, now, pump)
		if e != api.OK {
			t.Fatal(e)
		}
		sums := make([]int, len(flows))
		for i, n := range l {
			sums[w.Coolers[i].Branch] += n
		}
		for i := range flows {
			if sums[i] > 7*flows[i] {
				t.Fatal(w, now, pump, flows, l)
			}
		}
	}
}
