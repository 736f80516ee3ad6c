package heat_test

import (
	"math"
	"slices"
	"testing"

	"switchgear/api"
	"switchgear/heat"
)

// great returns a hall with all its numbers at their limits: a room is part of four walls and has two coolers.
func great() heat.Hall {
	h := heat.Hall{
		Rooms:    slices.Repeat([]heat.Room{{Store: heat.MaxStore, Limit: heat.MaxKelvin}}, 8),
		Branches: slices.Repeat([]heat.Branch{{Up: 0, Open: 100, Leak: heat.MaxFlow}}, 16),
	}
	h.Branches[0].Up = -1
	for i := range 16 {
		h.Walls = append(h.Walls, heat.Wall{A: i % 8, B: (i + 1) % 8, Pass: heat.MaxPass})
		h.Coolers = append(h.Coolers, heat.Cooler{Room: i % 8, Branch: 15 - i, Gain: heat.MaxPass, Carry: 1000, Supply: heat.MaxKelvin})
	}
	return h
}

// changed calls Check for a hall that was changed.
func changed(t *testing.T, name string, want api.Errno, change func(h *heat.Hall)) {
	t.Helper()
	h := great()
	change(&h)
	if e := heat.Check(h); e != want {
		t.Errorf("%s: %d, not %d", name, e, want)
	}
}

// number is a number of an element of a list, and which values it may have.
type number[T any] struct {
	name      string
	of        func(x *T) *int
	low, high int
}

// inAll sets each number of each element of a list to values at its limits and beyond.
func inAll[T any](t *testing.T, list func(h *heat.Hall) []T, numbers []number[T]) {
	t.Helper()
	for _, n := range numbers {
		for place := range list(new(great())) {
			for value, want := range map[int]api.Errno{
				n.low: api.OK, n.high: api.OK, (n.low + n.high) / 2: api.OK,
				n.low - 1: api.ErrRange, n.high + 1: api.ErrRange, math.MinInt: api.ErrRange, math.MaxInt: api.ErrRange,
			} {
				changed(t, n.name, want, func(h *heat.Hall) { *n.of(&list(h)[place]) = value })
			}
		}
	}
}

func TestNumbers(t *testing.T) {
	// With a lesser Store a room of the great hall has another error: see TestStores.
	inAll(t, func(h *heat.Hall) []heat.Room { return h.Rooms }, []number[heat.Room]{
		{"Limit", func(x *heat.Room) *int { return &x.Limit }, 0, heat.MaxKelvin},
	})
	inAll(t, func(h *heat.Hall) []heat.Wall { return h.Walls }, []number[heat.Wall]{
		{"Pass", func(x *heat.Wall) *int { return &x.Pass }, 0, heat.MaxPass},
	})
	inAll(t, func(h *heat.Hall) []heat.Branch { return h.Branches }, []number[heat.Branch]{
		{"Open", func(x *heat.Branch) *int { return &x.Open }, 0, 100},
		{"Leak", func(x *heat.Branch) *int { return &x.Leak }, 0, heat.MaxFlow},
	})
	inAll(t, func(h *heat.Hall) []heat.Cooler { return h.Coolers }, []number[heat.Cooler]{
		{"Room", func(x *heat.Cooler) *int { return &x.Room }, 0, 7},
		{"Branch", func(x *heat.Cooler) *int { return &x.Branch }, 0, 15},
		{"Gain", func(x *heat.Cooler) *int { return &x.Gain }, 0, heat.MaxPass},
		{"Carry", func(x *heat.Cooler) *int { return &x.Carry }, 0, 1000},
		{"Supply", func(x *heat.Cooler) *int { return &x.Supply }, 0, heat.MaxKelvin},
	})
}

func TestStores(t *testing.T) {
	for store, want := range map[int]api.Errno{
		1: api.OK, 2: api.OK, heat.MaxStore: api.OK,
		0: api.ErrRange, -1: api.ErrRange, heat.MaxStore + 1: api.ErrRange, math.MinInt: api.ErrRange, math.MaxInt: api.ErrRange,
	} {
		for place := range 8 {
			l := slices.Repeat([]heat.Room{{Store: 1}}, 8)
			l[place].Store = store
			if e := heat.Check(plain(l...)); e != want {
				t.Errorf("Store %d: %d", store, e)
			}
		}
	}
}

func TestWhatIsNamed(t *testing.T) {
	for place := range 16 {
		for _, c := range []struct {
			a, b int
			want api.Errno
		}{
			{0, -1, api.OK}, {7, -1, api.OK}, {0, 7, api.OK}, {7, 0, api.OK},
			{-1, 0, api.ErrRange}, {-1, -1, api.ErrRange}, {0, 0, api.ErrRange}, {7, 7, api.ErrRange}, {8, 0, api.ErrRange}, {0, 8, api.ErrRange}, {8, 8, api.ErrRange},
			{8, -1, api.ErrRange}, {0, -2, api.ErrRange}, {-2, 0, api.ErrRange}, {math.MinInt, 0, api.ErrRange}, {0, math.MaxInt, api.ErrRange}, {math.MaxInt, -1, api.ErrRange},
		} {
			changed(t, "wall", c.want, func(h *heat.Hall) { h.Walls[place] = heat.Wall{A: c.a, B: c.b, Pass: 1} })
		}
		for up := -2; up <= 17; up++ {
			want := api.ErrRange
			if place == 0 && up == -1 || place > 0 && up >= 0 && up < place {
				want = api.OK
			}
			changed(t, "branch", want, func(h *heat.Hall) { h.Branches[place].Up = up })
		}
		for _, up := range []int{math.MinInt, math.MaxInt} {
			changed(t, "branch", api.ErrRange, func(h *heat.Hall) { h.Branches[place].Up = up })
		}
	}
	// What is there depends on the hall.
	h, _, _ := chapter()
	for name, change := range map[string]func(h *heat.Hall){
		"a cooler in another room":       func(h *heat.Hall) { h.Coolers[0].Room = 1 },
		"a cooler on another branch":     func(h *heat.Hall) { h.Coolers[0].Branch = 1 },
		"a cooler, and no branch":        func(h *heat.Hall) { h.Branches = nil },
		"a cooler on none, and none":     func(h *heat.Hall) { h.Branches, h.Coolers[0].Branch = nil, -1 },
		"a wall to another room":         func(h *heat.Hall) { h.Walls[0].B = 1 },
		"a wall of another room":         func(h *heat.Hall) { h.Walls[0].A = 1 },
		"two branches at the pump":       func(h *heat.Hall) { h.Branches = append(h.Branches, h.Branches[0]) },
		"a branch that hangs on itself":  func(h *heat.Hall) { h.Branches[0].Up = 0 },
		"the second one hangs on itself": func(h *heat.Hall) { h.Branches = append(h.Branches, heat.Branch{Up: 1}) },
		"two branches hang on another": func(h *heat.Hall) {
			h.Branches = append(h.Branches, heat.Branch{Up: 2}, heat.Branch{Up: 0})
		},
	} {
		wrong := copied(h)
		change(&wrong)
		if e := heat.Check(wrong); e != api.ErrRange {
			t.Errorf("%s: %d", name, e)
		}
	}
}

func TestCheckMany(t *testing.T) {
	wall, branch, cooler := heat.Wall{A: 0, B: -1}, heat.Branch{Up: 0}, heat.Cooler{}
	for _, c := range []struct {
		rooms, walls, branches, coolers int
		want                            api.Errno
	}{
		{1, 0, 0, 0, api.OK},
		{8, 0, 0, 0, api.OK},
		{8, 16, 16, 16, api.OK},
		{1, 16, 16, 16, api.OK},
		{1, 16, 0, 0, api.OK},
		{1, 0, 16, 0, api.OK},
		{1, 0, 1, 16, api.OK},
		{1, 0, 0, 1, api.ErrRange},
		{0, 0, 0, 0, api.ErrMany},
		{0, 1, 1, 1, api.ErrMany},
		{9, 0, 0, 0, api.ErrMany},
		{9, 16, 16, 16, api.ErrMany},
		{1, 17, 0, 0, api.ErrMany},
		{1, 0, 17, 0, api.ErrMany},
		{1, 0, 1, 17, api.ErrMany},
		{1, 0, 0, 17, api.ErrMany},
		{8, 17, 17, 17, api.ErrMany},
		{900, 900, 900, 900, api.ErrMany},
	} {
		h := heat.Hall{
			Rooms:    slices.Repeat([]heat.Room{{Store: 1}}, c.rooms),
			Walls:    slices.Repeat([]heat.Wall{wall}, c.walls),
			Branches: slices.Repeat([]heat.Branch{branch}, c.branches),
			Coolers:  slices.Repeat([]heat.Cooler{cooler}, c.coolers),
		}
		if c.branches > 0 {
			h.Branches[0].Up = -1
		}
		if e := heat.Check(h); e != c.want {
			t.Errorf("%+v: %d", c, e)
		}
	}
}

func TestSlope(t *testing.T) {
	// Room 0 has the slope 1 + 2 + 16, room 1 has 2 + 4 + 32 + 64, room 2 has 4 + 8, room 3 has none.
	slopes := []int{19, 102, 12, 0}
	with := func(stores ...int) heat.Hall {
		h := heat.Hall{
			Walls:    []heat.Wall{{A: 0, B: -1, Pass: 1}, {A: 0, B: 1, Pass: 2}, {A: 2, B: 1, Pass: 4}, {A: 2, B: -1, Pass: 8}},
			Branches: []heat.Branch{{Up: -1}},
			Coolers:  []heat.Cooler{{Room: 0, Gain: 16}, {Room: 1, Gain: 32}, {Room: 1, Gain: 64}},
		}
		for _, n := range stores {
			h.Rooms = append(h.Rooms, heat.Room{Store: n})
		}
		return h
	}
	if e := heat.Check(with(19, 102, 12, 1)); e != api.OK {
		t.Error(e)
	}
	for i, n := range slopes[:3] {
		stores := []int{19, 102, 12, 1}
		stores[i] = n - 1
		if e := heat.Check(with(stores...)); e != api.ErrHeat {
			t.Error("room", i, e)
		}
		stores[i] = 1
		if e := heat.Check(with(stores...)); e != api.ErrHeat {
			t.Error("room", i, e)
		}
		// A wrong number counts first, wherever it is.
		stores[3] = 0
		if e := heat.Check(with(stores...)); e != api.ErrRange {
			t.Error("room", i, e)
		}
		h := with(slopes...)
		h.Rooms[i].Store, h.Rooms[3].Store, h.Coolers[2].Supply = n-1, 1, -1
		if e := heat.Check(h); e != api.ErrRange {
			t.Error("room", i, e)
		}
	}
	// The great hall has a slope of 600000 in each room.
	for i := range 8 {
		changed(t, "Store", api.OK, func(h *heat.Hall) { h.Rooms[i].Store = 600000 })
		changed(t, "Store", api.ErrHeat, func(h *heat.Hall) { h.Rooms[i].Store = 599999 })
	}
	// All that there can be in one room is more than any Store.
	one := great()
	for i := range 16 {
		one.Walls[i], one.Coolers[i].Room = heat.Wall{A: 0, B: 1 + i%7, Pass: heat.MaxPass}, 0
	}
	if e := heat.Check(one); e != api.ErrHeat {
		t.Error(e)
	}
}

func TestLimits(t *testing.T) {
	limits := []int{heat.MaxRooms, heat.MaxWalls, heat.MaxBranches, heat.MaxCoolers, heat.MaxStore, heat.MaxPass, heat.MaxKelvin, heat.MaxFlow, heat.MaxLoad, heat.MaxTime}
	if !slices.Equal(limits, []int{8, 16, 16, 16, 1000000, 100000, 1000000, 100000, 10000000, 20000}) {
		t.Error(limits)
	}
}
