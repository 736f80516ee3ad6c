package heat_test

import (
	"math"
	"math/rand/v2"
	"slices"
	"testing"

	"switchgear/api"
	"switchgear/heat"
)

// loop returns a hall with one room and some branches.
func loop(l ...heat.Branch) heat.Hall {
	return heat.Hall{Rooms: []heat.Room{{Store: 1000000, Limit: 30000}}, Branches: l}
}

func TestFlows(t *testing.T) {
	pump := heat.Branch{Up: -1}
	for _, c := range []struct {
		name string
		loop heat.Hall
		pump int
		want []int
	}{
		{"no branch", loop(), 100, nil},
		{"one", loop(pump), 100, []int{100}},
		{"the greatest pump", loop(pump), heat.MaxFlow, []int{heat.MaxFlow}},
		{"no pump", loop(pump), 0, []int{0}},
		{"open does not matter at the pump", loop(heat.Branch{Up: -1, Open: 7}), 100, []int{100}},
		{"a leak at the pump", loop(heat.Branch{Up: -1, Leak: 30}), 100, []int{70}},
		{"a leak of all", loop(heat.Branch{Up: -1, Leak: 100}), 100, []int{0}},
		{"a leak of more than all", loop(heat.Branch{Up: -1, Leak: 101}), 100, []int{0}},
		{"the chapter's shares", loop(pump, heat.Branch{Open: 50}, heat.Branch{Open: 25}, heat.Branch{Open: 25}), 100, []int{100, 50, 25, 25}},
		{"what remains of the rounding", loop(pump, heat.Branch{Open: 1}, heat.Branch{Open: 1}, heat.Branch{Open: 1}), 100, []int{100, 33, 33, 33}},
		{"the chapter's leak", loop(pump, heat.Branch{Open: 1}, heat.Branch{Open: 1, Leak: 40}, heat.Branch{Open: 1}), 100, []int{100, 33, 0, 33}},
		{"a leak of all of a share", loop(pump, heat.Branch{Open: 1}, heat.Branch{Open: 1, Leak: 33}, heat.Branch{Open: 1}), 100, []int{100, 33, 0, 33}},
		{"a leak of nearly all of a share", loop(pump, heat.Branch{Open: 1}, heat.Branch{Open: 1, Leak: 32}, heat.Branch{Open: 1}), 100, []int{100, 33, 1, 33}},
		{"a leak makes the shares less", loop(heat.Branch{Up: -1, Leak: 1}, heat.Branch{Open: 2}, heat.Branch{Open: 1}), 100, []int{99, 66, 33}},
		{"the leak counts after the share", loop(pump, heat.Branch{Open: 50, Leak: 10}, heat.Branch{Open: 50}), 100, []int{100, 40, 50}},
		{"a closed branch", loop(pump, heat.Branch{}, heat.Branch{Open: 3}), 100, []int{100, 0, 100}},
		{"one that is hardly open", loop(pump, heat.Branch{Open: 1}), 100, []int{100, 100}},
		{"nothing is open", loop(pump, heat.Branch{}, heat.Branch{}), 100, []int{100, 0, 0}},
		{"nothing is open, and something hangs on it", loop(pump, heat.Branch{}, heat.Branch{Up: 1, Open: 100}, heat.Branch{Up: 2, Open: 100}), 100, []int{100, 0, 0, 0}},
		{"something is open below what is closed", loop(pump, heat.Branch{Open: 1}, heat.Branch{}, heat.Branch{Up: 1, Open: 1}, heat.Branch{Up: 2, Open: 1}), 100, []int{100, 100, 0, 100, 0}},
		{"Open counts only beside one's own", loop(pump, heat.Branch{Open: 1}, heat.Branch{Open: 3}, heat.Branch{Up: 1, Open: 100}, heat.Branch{Up: 2, Open: 1}, heat.Branch{Up: 2, Open: 2}), 100, []int{100, 25, 75, 25, 25, 50}},
		{"the index does not say who hangs where", loop(pump, heat.Branch{Open: 1}, heat.Branch{Up: 1, Open: 1}, heat.Branch{Open: 1}, heat.Branch{Up: 1, Open: 4}, heat.Branch{Up: 3, Open: 1}), 100, []int{100, 50, 10, 50, 40, 50}},
		{"each share is rounded for itself", loop(pump, heat.Branch{Open: 2}, heat.Branch{Open: 1}, heat.Branch{Up: 1, Open: 2}, heat.Branch{Up: 1, Open: 1}), 100, []int{100, 66, 33, 44, 22}},
		{"each share is rounded on its way", loop(pump, heat.Branch{Open: 1}, heat.Branch{Open: 1}, heat.Branch{Up: 1, Open: 1}, heat.Branch{Up: 1, Open: 1}), 7, []int{7, 3, 3, 1, 1}},
		{"all the limits", loop(pump, heat.Branch{Open: 100}, heat.Branch{Open: 100}, heat.Branch{Open: 100, Leak: heat.MaxFlow}), heat.MaxFlow, []int{100000, 33333, 33333, 0}},
	} {
		l, e := heat.Flows(c.loop, c.pump)
		if e != api.OK || !slices.Equal(l, c.want) {
			t.Errorf("%s: %v %d, not %v", c.name, l, e, c.want)
		}
	}
}

func TestLongLoop(t *testing.T) {
	// Each of 16 branches hangs on the one before it and loses 10.
	var l []heat.Branch
	want := make([]int, 16)
	for i := range 16 {
		l = append(l, heat.Branch{Up: i - 1, Open: 5, Leak: 10})
		want[i] = max(0, 125-10*(i+1))
	}
	if x, e := heat.Flows(loop(l...), 125); e != api.OK || !slices.Equal(x, want) {
		t.Error(x, e)
	}
}

func TestPump(t *testing.T) {
	h, now, c := chapter()
	for pump, want := range map[int]api.Errno{0: api.OK, 1: api.OK, heat.MaxFlow: api.OK, -1: api.ErrRange, heat.MaxFlow + 1: api.ErrRange, math.MinInt: api.ErrRange, math.MaxInt: api.ErrRange} {
		for _, hall := range []heat.Hall{h, loop()} {
			if l, e := heat.Flows(hall, pump); e != want || e != api.OK && len(l) > 0 {
				t.Error("Flows", pump, l, e)
			}
			if l, e := heat.Taken(hall, now, pump); e != want || e != api.OK && len(l) > 0 {
				t.Error("Taken", pump, l, e)
			}
			c.Pump = pump
			if l, e := heat.Next(hall, now, c); e != want || e != api.OK && len(l) > 0 {
				t.Error("Next", pump, l, e)
			}
		}
	}
}

func TestTaken(t *testing.T) {
	h, _, _ := chapter()
	cooler := h.Coolers[0]
	with := func(l ...heat.Cooler) heat.Hall {
		h := copied(h)
		h.Rooms = append(h.Rooms, h.Rooms[0])
		h.Branches = append(h.Branches, heat.Branch{Up: 0, Open: 1})
		h.Coolers = l
		return h
	}
	other := func(change func(x *heat.Cooler)) heat.Cooler {
		x := cooler
		change(&x)
		return x
	}
	elsewhere := other(func(x *heat.Cooler) { x.Room, x.Supply, x.Gain = 1, 19000, 2 })
	below := other(func(x *heat.Cooler) { x.Branch = 1 })
	for _, c := range []struct {
		name string
		hall heat.Hall
		t    []int
		pump int
		want []int
	}{
		{"the chapter's first example", h, []int{22000}, 100, []int{400}},
		{"the chapter's second example", h, []int{22000}, 50000, []int{200000}},
		{"just what is carried", h, []int{22000}, 49999, []int{199996}},
		{"no pump", h, []int{22000}, 0, []int{0}},
		{"as cold as the water", h, []int{18000}, 100, []int{0}},
		{"colder than the water", h, []int{17999}, 100, []int{0}},
		{"much colder than the water", h, []int{0}, heat.MaxFlow, []int{0}},
		{"hardly hotter than the water", h, []int{18001}, 100, []int{50}},
		{"no cooler", with(), []int{0, 0}, 100, nil},
		{"two on a branch", with(cooler, cooler), []int{22000, 22000}, 100, []int{200, 200}},
		{"two on a branch, one needs less than its share", with(cooler, elsewhere), []int{22000, 19050}, 100, []int{200, 100}},
		{"two on a branch, one needs nothing", with(elsewhere, cooler), []int{22000, 19000}, 100, []int{0, 200}},
		{"what is carried is divided and rounded down", with(cooler, cooler, cooler), []int{22000, 22000}, 100, []int{133, 133, 133}},
		{"each with its Carry", with(cooler, other(func(x *heat.Cooler) { x.Carry = 7 }), other(func(x *heat.Cooler) { x.Carry = 0 })), []int{22000, 22000}, 101, []int{134, 235, 0}},
		{"two on two branches", with(cooler, below), []int{22000, 22000}, 100, []int{400, 400}},
		{"three on two branches", with(below, cooler, below), []int{22000, 22000}, 101, []int{202, 404, 202}},
		{"no gain", with(other(func(x *heat.Cooler) { x.Gain = 0 })), []int{22000, 22000}, 100, []int{0}},
		{"the other room", with(elsewhere), []int{30000, 19001}, 100, []int{2}},
	} {
		l, e := heat.Taken(c.hall, c.t, c.pump)
		if e != api.OK || !slices.Equal(l, c.want) {
			t.Errorf("%s: %v %d, not %v", c.name, l, e, c.want)
		}
	}
}

// TestTold compares with the chapter's words.
func TestTold(t *testing.T) {
	r := rand.New(rand.NewPCG(7, 1))
	carried, gained, dry := 0, 0, 0
	for range 20000 {
		w := randomWorld(r)
		now, pump := w.temperatures(r), from(r, 0, 60)
		flows, e := heat.Flows(w.Hall, pump)
		if e != api.OK || len(flows) != len(w.Branches) {
			t.Fatal(w, flows, e)
		}
		for i, n := range flows {
			if n != tellFlow(w.Hall, i, pump) {
				t.Fatal(w, pump, flows, i)
			}
		}
		taken, e := heat.Taken(w.Hall, now, pump)
		if e != api.OK || len(taken) != len(w.Coolers) {
			t.Fatal(w, taken, e)
		}
		for i, n := range taken {
			if n != tellTaken(w.Hall, i, now, pump) {
				t.Fatal(w, now, pump, taken, i)
			}
			x := w.Coolers[i]
			switch full := x.Gain * (now[x.Room] - x.Supply); {
			case full > n && n > 0:
				carried++
			case full == n && n > 0:
				gained++
			case full > 0:
				dry++
			}
		}
	}
	if min(carried, gained, dry) < 1000 {
		t.Error("met:", carried, gained, dry)
	}
}
