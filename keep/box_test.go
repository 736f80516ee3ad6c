package keep_test

import (
	"iter"
	"math"
	"math/rand/v2"
	"slices"
	"testing"

	"switchgear/api"
	"switchgear/heat"
	"switchgear/keep"
)

// walled returns a hall of rooms with equal Stores, and walls.
func walled(store, rooms int, walls ...heat.Wall) heat.Hall {
	return heat.Hall{Rooms: slices.Repeat([]heat.Room{{Store: store}}, rooms), Walls: walls}
}

// alone returns a class that has just one case.
func alone(c heat.Case) heat.Class { return heat.Class{Low: c, High: c} }

// boxed calls Box and compares.
func boxed(t *testing.T, name string, h heat.Hall, low, high []int, k heat.Class, most int, wantLow, wantHigh []int, seconds int, err api.Errno) {
	t.Helper()
	a, b, n, e := keep.Box(h, low, high, k, most)
	if !slices.Equal(a, wantLow) || !slices.Equal(b, wantHigh) || n != seconds || e != err {
		t.Errorf("%s: %v %v %d %d, not %v %v %d %d", name, a, b, n, e, wantLow, wantHigh, seconds, err)
	}
}

func TestBox(t *testing.T) {
	one := func(n int) []int { return []int{n} }
	top := heat.MaxKelvin
	still := alone(heat.Case{Load: one(0)})
	room := walled(10, 1)
	boxed(t, "at once", room, one(500), one(600), still, 1, one(500), one(600), 0, api.OK)
	boxed(t, "at once, with much time", room, one(500), one(600), still, heat.MaxTime, one(500), one(600), 0, api.OK)
	boxed(t, "at once, a point", room, one(500), one(500), still, 1, one(500), one(500), 0, api.OK)
	boxed(t, "at once, but no second", room, one(500), one(600), still, 0, nil, nil, 0, api.ErrTime)
	boxed(t, "a load that is too small", room, one(500), one(600), alone(heat.Case{Load: one(9)}), 1, one(500), one(600), 0, api.OK)

	hot := heat.Class{Low: heat.Case{Load: one(0)}, High: heat.Case{Load: one(10)}}
	boxed(t, "high rises", room, one(7), one(top-3), hot, 4, one(7), one(top), 3, api.OK)
	boxed(t, "high rises, with more time", room, one(7), one(top-3), hot, 50, one(7), one(top), 3, api.OK)
	boxed(t, "the last second changes something", room, one(7), one(top-3), hot, 3, nil, nil, 0, api.ErrTime)
	boxed(t, "not in time", room, one(7), one(top-3), hot, 1, nil, nil, 0, api.ErrTime)
	boxed(t, "in the last second of all", room, one(7), one(top-heat.MaxTime+1), hot, heat.MaxTime, one(7), one(top), heat.MaxTime-1, api.OK)
	boxed(t, "a second later than that", room, one(7), one(top-heat.MaxTime), hot, heat.MaxTime, nil, nil, 0, api.ErrTime)
	// With the load in each case low would rise, but it stays.
	boxed(t, "low would rise", room, one(7), one(top-3), alone(hot.High), 4, one(7), one(top), 3, api.OK)

	// Half of the difference to the outside goes in each second: 80, 40, 20, 10, 5, 2, 1, 0.
	wall := walled(2, 1, heat.Wall{A: 0, B: -1, Pass: 1})
	out := alone(heat.Case{Load: one(0), Out: 100})
	boxed(t, "low falls, high would fall", wall, one(180), one(300), out, 8, one(100), one(300), 7, api.OK)
	boxed(t, "low falls, not in time", wall, one(180), one(300), out, 7, nil, nil, 0, api.ErrTime)
	// From below it stays one short of the outside: 20, 60, 80, 90, 95, 97, 98, 99.
	boxed(t, "high rises, low would rise", wall, one(0), one(20), out, 8, one(0), one(99), 7, api.OK)
	boxed(t, "both are at their places", wall, one(99), one(100), out, 1, one(99), one(100), 0, api.OK)
	wide := heat.Class{Low: heat.Case{Load: one(0), Out: 100}, High: heat.Case{Load: one(0), Out: 200}}
	boxed(t, "both, low later", wall, one(180), one(196), wide, 8, one(100), one(199), 7, api.OK)
	boxed(t, "both, low later, not in time", wall, one(180), one(196), wide, 7, nil, nil, 0, api.ErrTime)
	boxed(t, "both, high later", wall, one(102), one(120), wide, 8, one(100), one(199), 7, api.OK)
	boxed(t, "both, high later, not in time", wall, one(102), one(120), wide, 7, nil, nil, 0, api.ErrTime)

	for _, most := range []int{-1, heat.MaxTime + 1, math.MinInt, math.MaxInt} {
		boxed(t, "a wrong time", room, one(500), one(600), still, most, nil, nil, 0, api.ErrMany)
		boxed(t, "a wrong time, and it is not found", room, one(500), one(600), hot, most, nil, nil, 0, api.ErrMany)
	}
}

// TestBoxOfRooms has halls with two rooms, and with water.
func TestBoxOfRooms(t *testing.T) {
	still := alone(heat.Case{Load: []int{0, 0}})
	// Both rooms exchange their temperatures in each second.
	swap := walled(10, 2, heat.Wall{A: 0, B: 1, Pass: 10})
	boxed(t, "they exchange", swap, []int{400, 500}, []int{400, 500}, still, 2, []int{400, 400}, []int{500, 500}, 1, api.OK)
	boxed(t, "they exchange, not in time", swap, []int{400, 500}, []int{400, 500}, still, 1, nil, nil, 0, api.ErrTime)
	boxed(t, "they exchange, but are equal", swap, []int{400, 400}, []int{500, 500}, still, 1, []int{400, 400}, []int{500, 500}, 0, api.OK)
	// Only one room changes.
	for _, room := range []int{0, 1} {
		h := walled(2, 2, heat.Wall{A: room, B: -1, Pass: 1})
		k := alone(heat.Case{Load: []int{0, 0}, Out: 100})
		low, high := []int{7, 7}, []int{900, 900}
		low[room] = 180
		want := slices.Clone(low)
		want[room] = 100
		boxed(t, "low of one room", h, low, high, k, 8, want, high, 7, api.OK)
		low, high = []int{0, 0}, []int{900, 900}
		high[room] = 20
		want = slices.Clone(high)
		want[room] = 99
		boxed(t, "high of one room", h, low, high, k, 8, low, want, 7, api.OK)
	}
	// With the strong pump the room goes down to 20000, with the weak one up to 29960: see the example of layer 7.
	h := heat.Hall{
		Rooms:    []heat.Room{{Store: 1000, Limit: 30000}},
		Walls:    []heat.Wall{{A: 0, B: -1, Pass: 10}},
		Branches: []heat.Branch{{Up: -1, Open: 100}},
		Coolers:  []heat.Cooler{{Room: 0, Branch: 0, Gain: 50, Carry: 4, Supply: 18000}},
	}
	c := heat.Case{Load: []int{100000}, Out: 20000, Pump: 100}
	k := alone(c)
	k.Low.Pump = 50000
	low, high, n, e := keep.Box(h, []int{22000}, []int{22000}, k, heat.MaxTime)
	coldest, _, ofLow := heat.Settle(h, []int{22000}, k.Low, heat.MaxTime)
	hottest, last, ofHigh := heat.Settle(h, []int{22000}, k.High, heat.MaxTime)
	if e != api.OK || ofLow != api.OK || ofHigh != api.OK || !slices.Equal(low, coldest) || !slices.Equal(high, hottest) || n != last {
		t.Error(low, high, n, e, coldest, hottest, last)
	}
	boxed(t, "the first second", h, []int{21880}, []int{22078}, k, 1, nil, nil, 0, api.ErrTime)
}

// world is a hall with small numbers, a class of cases, and a box of temperatures.
type world struct {
	h         heat.Hall
	k         heat.Class
	low, high []int
}

// randomWorld returns a world with at most so many rooms.
func randomWorld(r *rand.Rand, rooms int) world {
	rooms = from(r, 1, rooms)
	base := []int{0, 20000, heat.MaxKelvin - 40}[r.IntN(3)]
	temperature := func() int { return base + from(r, 0, 40) }
	w := world{h: heat.Hall{Branches: []heat.Branch{{Up: -1}, {Up: 0, Open: 1}}}}
	for range from(r, 0, 4) {
		a, b := from(r, 0, rooms-1), from(r, -1, rooms-1)
		if a != b {
			w.h.Walls = append(w.h.Walls, heat.Wall{A: a, B: b, Pass: from(r, 0, 3)})
		}
	}
	for range from(r, 0, 2) {
		w.h.Coolers = append(w.h.Coolers, heat.Cooler{Room: from(r, 0, rooms-1), Branch: r.IntN(2), Gain: from(r, 0, 3), Carry: from(r, 0, 9), Supply: temperature()})
	}
	for range rooms {
		w.h.Rooms = append(w.h.Rooms, heat.Room{Store: from(r, 18, 30)})
		load, a, b := from(r, 0, 20), temperature(), temperature()
		w.k.Low.Load = append(w.k.Low.Load, load)
		w.k.High.Load = append(w.k.High.Load, load+from(r, 0, 20))
		w.low, w.high = append(w.low, min(a, b)), append(w.high, max(a, b))
	}
	a, b := temperature(), temperature()
	w.k.Low.Out, w.k.High.Out = min(a, b), max(a, b)
	w.k.High.Pump = from(r, 0, 20)
	w.k.Low.Pump = w.k.High.Pump + from(r, 0, 20)
	return w
}

// tellBox returns what Box should return, by the chapter's words.
func tellBox(t *testing.T, w world, most int) ([]int, []int, int, api.Errno) {
	t.Helper()
	low, high := slices.Clone(w.low), slices.Clone(w.high)
	for second := 1; second <= most; second++ {
		a, ofLow := heat.Next(w.h, low, w.k.Low)
		b, ofHigh := heat.Next(w.h, high, w.k.High)
		if ofLow != api.OK || ofHigh != api.OK {
			t.Fatalf("Next: %d %d: %+v", ofLow, ofHigh, w)
		}
		changed := false
		for room := range low {
			if a[room] < low[room] {
				low[room], changed = a[room], true
			}
			if b[room] > high[room] {
				high[room], changed = b[room], true
			}
		}
		if !changed {
			return low, high, second - 1, api.OK
		}
	}
	return nil, nil, 0, api.ErrTime
}

// TestBoxRandom compares with the chapter's words.
func TestBoxRandom(t *testing.T) {
	r := rand.New(rand.NewPCG(8, 8))
	met := [3]int{}
	for range 20000 {
		w, most := randomWorld(r, 3), from(r, 0, 40)
		low, high, n, e := tellBox(t, w, most)
		boxed(t, "random", w.h, w.low, w.high, w.k, most, low, high, n, e)
		switch {
		case e != api.OK:
			met[0]++
		case n == 0:
			met[1]++
		default:
			met[2]++
		}
	}
	if slices.Min(met[:]) < 1000 {
		t.Error("met:", met)
	}
}

// contains reports whether a box contains another one.
func contains(low, high, lowOther, highOther []int) bool {
	for room := range low {
		if low[room] > lowOther[room] || high[room] < highOther[room] {
			return false
		}
	}
	return true
}

// held reports whether a box is held.
func held(t *testing.T, w world, low, high []int) bool {
	t.Helper()
	ok, e := heat.Held(w.h, low, high, w.k)
	if e != api.OK {
		t.Fatalf("Held: error %d: %+v %v %v", e, w, low, high)
	}
	return ok
}

// lists yields all lists with numbers from those of low to those of high.
func lists(low, high []int) iter.Seq[[]int] {
	return func(yield func([]int) bool) {
		for now := slices.Clone(low); ; {
			if !yield(now) {
				return
			}
			i := 0
			for ; i < len(now) && now[i] == high[i]; i++ {
				now[i] = low[i]
			}
			if i == len(now) {
				return
			}
			now[i]++
		}
	}
}

// TestLeastBox checks that the box is held, and that no lesser one that contains the given one is.
func TestLeastBox(t *testing.T) {
	r := rand.New(rand.NewPCG(8, 9))
	met, tried := 0, 0
	for range 6000 {
		w := randomWorld(r, 2)
		low, high, n, e := keep.Box(w.h, w.low, w.high, w.k, 200)
		if e != api.OK {
			continue
		}
		if !contains(low, high, w.low, w.high) || !held(t, w, low, high) || (n == 0) != held(t, w, w.low, w.high) {
			t.Fatalf("%+v: %v %v %d", w, low, high, n)
		}
		boxes := 1
		for room := range low {
			boxes *= (w.low[room] - low[room] + 1) * (high[room] - w.high[room] + 1)
		}
		if n == 0 || boxes > 2000 {
			continue
		}
		met++
		for a := range lists(low, w.low) {
			for b := range lists(w.high, high) {
				tried++
				if least := slices.Equal(a, low) && slices.Equal(b, high); held(t, w, a, b) != least {
					t.Fatalf("%+v: %v %v, but %v %v", w, low, high, a, b)
				}
			}
		}
	}
	if met < 1000 || tried < 10000 {
		t.Error("met:", met, tried)
	}
}

// TestHeldContainsBox checks that other boxes that are held and contain the given one contain the one that Box returns.
func TestHeldContainsBox(t *testing.T) {
	r := rand.New(rand.NewPCG(8, 10))
	met := 0
	for range 6000 {
		w := randomWorld(r, 3)
		low, high, _, e := keep.Box(w.h, w.low, w.high, w.k, 300)
		lowOther, highOther := slices.Clone(w.low), slices.Clone(w.high)
		for room := range lowOther {
			lowOther[room] = max(0, lowOther[room]-from(r, 0, 40))
			highOther[room] = min(heat.MaxKelvin, highOther[room]+from(r, 0, 40))
		}
		if !held(t, w, lowOther, highOther) {
			continue
		}
		met++
		// It changes nothing outside of the other box, and something in each second but the last: so it is found in time.
		if e != api.OK || !contains(lowOther, highOther, low, high) {
			t.Fatalf("%+v: %v %v %d, but %v %v is held", w, low, high, e, lowOther, highOther)
		}
	}
	if met < 1000 {
		t.Error("met:", met)
	}
}

// TestBoxErrors compares with the errors of heat.Bounds, for arguments of which some are wrong.
func TestBoxErrors(t *testing.T) {
	r := rand.New(rand.NewPCG(8, 11))
	met := map[api.Errno]int{}
	odd := []int{math.MinInt, -2, -1, 8, 16, heat.MaxKelvin, heat.MaxKelvin + 1, 10000001, math.MaxInt}
	for range 30000 {
		w := randomWorld(r, 2)
		spoil := func(n *int) {
			if r.IntN(40) == 0 {
				*n = odd[r.IntN(len(odd))]
			}
		}
		for room := range w.low {
			spoil(&w.h.Rooms[room].Store)
			spoil(&w.k.Low.Load[room])
			spoil(&w.k.High.Load[room])
			spoil(&w.low[room])
			spoil(&w.high[room])
		}
		for _, n := range []*int{&w.k.Low.Out, &w.k.High.Out, &w.k.Low.Pump, &w.k.High.Pump} {
			spoil(n)
		}
		for _, l := range []*[]int{&w.low, &w.high, &w.k.Low.Load, &w.k.High.Load} {
			switch r.IntN(60) {
			case 0:
				*l = nil
			case 1:
				*l = append(*l, 1)
			}
		}
		if r.IntN(60) == 0 {
			w.h.Rooms = nil
		}
		most := from(r, 0, 9)
		_, _, want := heat.Bounds(w.h, w.low, w.high, w.k, most)
		low, high, n, e := keep.Box(w.h, w.low, w.high, w.k, most)
		if want == api.OK && e != api.ErrTime || want != api.OK {
			if e != want || e != api.OK && (len(low) > 0 || len(high) > 0 || n != 0) {
				t.Fatalf("%+v %d: %v %v %d %d, not %d", w, most, low, high, n, e, want)
			}
		}
		met[e]++
		// A wrong time comes after all of that.
		if want == api.OK {
			want = api.ErrMany
		}
		boxed(t, "a wrong time", w.h, w.low, w.high, w.k, -1, nil, nil, 0, want)
		boxed(t, "a long time", w.h, w.low, w.high, w.k, heat.MaxTime+1, nil, nil, 0, want)
	}
	for _, e := range []api.Errno{api.OK, api.ErrTime, api.ErrMany, api.ErrArg, api.ErrRange, api.ErrBox} {
		if met[e] < 100 {
			t.Error("met:", e, met[e])
		}
	}
}
