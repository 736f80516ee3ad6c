package heat_test

import (
	"math"
	"math/rand/v2"
	"slices"
	"testing"

	"switchgear/api"
	"switchgear/heat"
)

func TestNextOfChapter(t *testing.T) {
	h, now, c := chapter()
	for pump, want := range map[int]int{100: 22079, 50000: 21880, 0: 22080, 49999: 21880, 50001: 21880, heat.MaxFlow: 21880} {
		c.Pump = pump
		if l := nexted(t, h, now, c); !slices.Equal(l, []int{want}) {
			t.Error("pump", pump, l)
		}
	}
}

// second is a hall in a second, and what comes of it.
type second struct {
	name string
	hall heat.Hall
	t    []int
	c    heat.Case
	want []int
}

// walled returns a hall of two rooms with some walls.
func walled(store int, l ...heat.Wall) heat.Hall {
	return heat.Hall{Rooms: slices.Repeat([]heat.Room{{Store: store}}, 2), Walls: l}
}

// seconds has seconds of which the chapter tells what comes.
func seconds() []second {
	two := []int{0, 0}
	wall, back := heat.Wall{A: 0, B: 1, Pass: 10}, heat.Wall{A: 1, B: 0, Pass: 10}
	warm := plain(heat.Room{Store: 10})
	const top = heat.MaxKelvin
	return []second{
		{"nothing happens", warm, []int{500}, heat.Case{Load: []int{0}, Out: 9}, []int{500}},
		{"a load", warm, []int{500}, heat.Case{Load: []int{70}}, []int{507}},
		{"a load that is rounded down", warm, []int{500}, heat.Case{Load: []int{79}}, []int{507}},
		{"a load that is too small", warm, []int{500}, heat.Case{Load: []int{9}}, []int{500}},
		{"the least Store", plain(heat.Room{Store: 1}), []int{500}, heat.Case{Load: []int{9}}, []int{509}},
		{"each room has its load", walled(10), []int{500, 600}, heat.Case{Load: []int{70, 80}}, []int{507, 608}},
		{"heat goes from A to B", walled(100, wall), []int{500, 400}, heat.Case{Load: two}, []int{490, 410}},
		{"heat goes from B to A", walled(100, wall), []int{400, 500}, heat.Case{Load: two}, []int{410, 490}},
		{"a wall the other way round", walled(100, back), []int{500, 400}, heat.Case{Load: two}, []int{490, 410}},
		{"both walls", walled(100, wall, back), []int{500, 400}, heat.Case{Load: two}, []int{480, 420}},
		{"the outside is colder", walled(100, heat.Wall{A: 1, B: -1, Pass: 3}), []int{500, 500}, heat.Case{Load: two, Out: 400}, []int{500, 497}},
		{"the outside is hotter", walled(100, heat.Wall{A: 1, B: -1, Pass: 3}), []int{500, 500}, heat.Case{Load: two, Out: 600}, []int{500, 503}},
		{"a negative sum is rounded down", walled(100, heat.Wall{A: 0, B: -1, Pass: 1}), []int{500, 500}, heat.Case{Load: two, Out: 499}, []int{499, 500}},
		{"a greater negative sum is rounded down", walled(100, heat.Wall{A: 0, B: -1, Pass: 1}), []int{500, 500}, heat.Case{Load: two, Out: 399}, []int{498, 500}},
		{"a negative sum without a rest", walled(100, heat.Wall{A: 0, B: -1, Pass: 1}), []int{500, 500}, heat.Case{Load: two, Out: 400}, []int{499, 500}},
		{"a wall with a rest on both sides", walled(100, heat.Wall{A: 0, B: 1, Pass: 1}), []int{501, 500}, heat.Case{Load: two}, []int{500, 500}},
		{"the load saves it from rounding", walled(100, heat.Wall{A: 0, B: -1, Pass: 1}), []int{500, 500}, heat.Case{Load: []int{1, 0}, Out: 499}, []int{500, 500}},
		{"a wall without Pass", walled(100, heat.Wall{A: 0, B: 1}), []int{500, 0}, heat.Case{Load: two}, []int{500, 0}},
		{"the slope is the Store", walled(10, wall), []int{500, 400}, heat.Case{Load: two}, []int{400, 500}},
		{"as cold as can be", walled(10, heat.Wall{A: 0, B: -1, Pass: 10}), []int{500, 0}, heat.Case{Load: two}, []int{0, 0}},
		{"cold for ever", walled(10, heat.Wall{A: 0, B: -1, Pass: 10}, heat.Wall{A: 1, B: -1, Pass: 9}), []int{0, 1}, heat.Case{Load: two}, []int{0, 0}},
		{"as hot as can be", warm, []int{top - 7}, heat.Case{Load: []int{70}}, []int{top}},
		{"hotter than can be", warm, []int{top - 7}, heat.Case{Load: []int{80}}, []int{top}},
		{"hot for ever", warm, []int{top}, heat.Case{Load: []int{heat.MaxLoad}}, []int{top}},
		{"hot, but a little cooler", walled(100, heat.Wall{A: 0, B: -1, Pass: 1}), []int{top, top}, heat.Case{Load: two, Out: top - 1}, []int{top - 1, top}},
		{"each room is cut for itself", walled(10), []int{top - 1, 5}, heat.Case{Load: []int{20, 20}}, []int{top, 7}},
	}
}

func TestNext(t *testing.T) {
	for _, c := range seconds() {
		if l := nexted(t, c.hall, c.t, c.c); !slices.Equal(l, c.want) {
			t.Errorf("%s: %v, not %v", c.name, l, c.want)
		}
		if l := tellNext(c.hall, c.t, c.c); !slices.Equal(l, c.want) {
			t.Errorf("%s: told %v, not %v", c.name, l, c.want)
		}
	}
}

func TestNextOfCoolers(t *testing.T) {
	// Two coolers of one room on one branch, and one on another branch and in another room.
	h := heat.Hall{
		Rooms:    []heat.Room{{Store: 100}, {Store: 100}, {Store: 100}},
		Branches: []heat.Branch{{Up: -1}, {Up: 0, Open: 1}, {Up: 0, Open: 1}},
		Coolers:  []heat.Cooler{{Room: 0, Branch: 1, Gain: 20, Carry: 3, Supply: 100}, {Room: 0, Branch: 1, Gain: 30, Carry: 5, Supply: 200}, {Room: 2, Branch: 2, Gain: 100, Carry: 7, Supply: 300}},
	}
	c := heat.Case{Load: []int{0, 0, 0}, Pump: 1000}
	for _, x := range []struct{ now, want []int }{
		{[]int{300, 300, 300}, []int{300 - (750+1250)/100, 300, 300}},
		{[]int{130, 300, 310}, []int{130 - 6, 300, 300}},
		{[]int{99, 300, 340}, []int{99, 300, 340 - 35}},
		{[]int{210, 0, 0}, []int{210 - (750+300)/100 - 1, 0, 0}},
	} {
		if l := nexted(t, h, x.now, c); !slices.Equal(l, x.want) {
			t.Error(x.now, l)
		}
	}
}

func TestNextOfGreatHall(t *testing.T) {
	h := great()
	hot := slices.Repeat([]int{heat.MaxKelvin}, 8)
	cold := make([]int, 8)
	full := heat.Case{Load: slices.Repeat([]int{heat.MaxLoad}, 8), Out: heat.MaxKelvin, Pump: heat.MaxFlow}
	if l := nexted(t, h, hot, full); !slices.Equal(l, hot) {
		t.Error(l)
	}
	if l := nexted(t, h, cold, full); !slices.Equal(l, slices.Repeat([]int{10}, 8)) {
		t.Error(l)
	}
	// A hot room gives 400000 watts for each millikelvin to its neighbours, and its two coolers take 6250000 watts each, as the water carries no more.
	for i := range h.Branches {
		h.Branches[i].Leak, h.Coolers[i].Supply, h.Coolers[i].Branch = 0, 0, 0
	}
	one := slices.Clone(cold)
	one[3] = heat.MaxKelvin
	want := []int{0, 0, 200000, 600000 - 13, 200000, 0, 0, 0}
	if l := nexted(t, h, one, heat.Case{Load: cold, Pump: heat.MaxFlow}); !slices.Equal(l, want) {
		t.Error(l)
	}
}

// TestNextTold compares with the chapter's words.
func TestNextTold(t *testing.T) {
	r := rand.New(rand.NewPCG(7, 2))
	lower, higher, top := 0, 0, 0
	for range 20000 {
		w := randomWorld(r)
		now, c := w.temperatures(r), w.happening(r)
		l := nexted(t, w.Hall, now, c)
		if !slices.Equal(l, tellNext(w.Hall, now, c)) {
			t.Fatalf("%+v %v %+v: %v, not %v", w, now, c, l, tellNext(w.Hall, now, c))
		}
		for i, n := range l {
			switch {
			case n == heat.MaxKelvin:
				top++
			case n < now[i]:
				lower++
			case n > now[i]:
				higher++
			}
		}
	}
	if min(lower, higher, top) < 1000 {
		t.Error("met:", lower, higher, top)
	}
}

// happens returns cases of a chapter's hall with numbers at their limits and beyond.
func happens() map[string]struct {
	c    heat.Case
	want api.Errno
} {
	_, _, right := chapter()
	list := map[string]struct {
		c    heat.Case
		want api.Errno
	}{}
	add := func(name string, want api.Errno, change func(c *heat.Case)) {
		c := copiedCase(right)
		change(&c)
		list[name] = struct {
			c    heat.Case
			want api.Errno
		}{c, want}
	}
	for name, x := range map[string]struct {
		of   func(c *heat.Case) *int
		most int
	}{
		"Load": {func(c *heat.Case) *int { return &c.Load[0] }, heat.MaxLoad},
		"Out":  {func(c *heat.Case) *int { return &c.Out }, heat.MaxKelvin},
		"Pump": {func(c *heat.Case) *int { return &c.Pump }, heat.MaxFlow},
	} {
		add(name+" 0", api.OK, func(c *heat.Case) { *x.of(c) = 0 })
		add(name+" most", api.OK, func(c *heat.Case) { *x.of(c) = x.most })
		add(name+" below 0", api.ErrRange, func(c *heat.Case) { *x.of(c) = -1 })
		add(name+" one more", api.ErrRange, func(c *heat.Case) { *x.of(c) = x.most + 1 })
		add(name+" much more", api.ErrRange, func(c *heat.Case) { *x.of(c) = math.MaxInt })
		add(name+" much less", api.ErrRange, func(c *heat.Case) { *x.of(c) = math.MinInt })
	}
	add("no load", api.ErrArg, func(c *heat.Case) { c.Load = nil })
	add("two loads", api.ErrArg, func(c *heat.Case) { c.Load = []int{1, 2} })
	add("two loads, and one is wrong", api.ErrArg, func(c *heat.Case) { c.Load = []int{1, -2} })
	add("two loads, and the outside is wrong", api.ErrArg, func(c *heat.Case) { c.Load, c.Out = []int{1, 2}, -1 })
	return list
}

func TestCases(t *testing.T) {
	h, now, right := chapter()
	for name, x := range happens() {
		if l, e := heat.Next(h, now, x.c); e != x.want || (len(l) == 1) != (e == api.OK) {
			t.Errorf("Next, %s: %v %d", name, l, e)
		}
		for place := range 3 {
			list := []heat.Case{right, right, right}
			list[place] = x.c
			if l, e := heat.Run(h, now, list); e != x.want || (len(l) == 3) != (e == api.OK) || e != api.OK && len(l) > 0 {
				t.Errorf("Run, %s: %v %d", name, l, e)
			}
		}
		want := x.want
		if want == api.OK {
			want = api.ErrTime
		}
		if l, n, e := heat.Settle(h, now, x.c, 0); e != want || len(l) > 0 || n != 0 {
			t.Errorf("Settle, %s: %v %d %d", name, l, n, e)
		}
		if ok, e := heat.Belongs(h, alone(right), x.c); e != x.want || ok {
			t.Errorf("Belongs, %s: %v %d", name, ok, e)
		}
	}
}

// temperatures has temperatures of a hall with two rooms.
func temperatures() map[string]struct {
	t    []int
	want api.Errno
} {
	type x = struct {
		t    []int
		want api.Errno
	}
	return map[string]x{
		"none":                 {nil, api.ErrArg},
		"an empty list":        {[]int{}, api.ErrArg},
		"one":                  {[]int{1}, api.ErrArg},
		"two":                  {[]int{1, 2}, api.OK},
		"three":                {[]int{1, 2, 3}, api.ErrArg},
		"three, one is wrong":  {[]int{1, 2, -3}, api.ErrArg},
		"the first is below 0": {[]int{-1, 2}, api.ErrRange},
		"the last is below 0":  {[]int{1, -1}, api.ErrRange},
		"both are 0":           {[]int{0, 0}, api.OK},
		"both are great":       {[]int{heat.MaxKelvin, heat.MaxKelvin}, api.OK},
		"the first is greater": {[]int{heat.MaxKelvin + 1, 2}, api.ErrRange},
		"the last is greater":  {[]int{1, heat.MaxKelvin + 1}, api.ErrRange},
		"the least int":        {[]int{1, math.MinInt}, api.ErrRange},
		"the greatest int":     {[]int{math.MaxInt, 1}, api.ErrRange},
	}
}

func TestTemperatures(t *testing.T) {
	h := walled(10)
	c := heat.Case{Load: []int{0, 0}}
	k := alone(c)
	for name, x := range temperatures() {
		errors := map[string]api.Errno{}
		_, errors["Taken"] = heat.Taken(h, x.t, 0)
		_, errors["Next"] = heat.Next(h, x.t, c)
		_, errors["Run"] = heat.Run(h, x.t, nil)
		_, _, errors["Ride"] = heat.Ride(h, x.t, k, 1)
		_, _, errors["Settle"] = heat.Settle(h, x.t, c, 1)
		_, _, errors["Bounds of low"] = heat.Bounds(h, x.t, []int{heat.MaxKelvin, heat.MaxKelvin}, k, 1)
		_, _, errors["Bounds of high"] = heat.Bounds(h, []int{0, 0}, x.t, k, 1)
		_, errors["Held of low"] = heat.Held(h, x.t, []int{heat.MaxKelvin, heat.MaxKelvin}, k)
		_, errors["Held of high"] = heat.Held(h, []int{0, 0}, x.t, k)
		for of, e := range errors {
			if e != x.want {
				t.Errorf("%s, %s: %d, not %d", of, name, e, x.want)
			}
		}
	}
}

func TestRun(t *testing.T) {
	h, now, c := chapter()
	strong := copiedCase(c)
	strong.Pump = 50000
	l, e := heat.Run(h, now, []heat.Case{c, strong, c})
	want := [][]int{{22079}, {(22079000 + 100000 - 20790 - 200000) / 1000}, {(21958000 + 100000 - 19580 - 400) / 1000}}
	if e != api.OK || !sameRows(l, want) {
		t.Error(l, e, want)
	}
	for _, none := range [][]heat.Case{nil, {}} {
		if l, e := heat.Run(h, now, none); e != api.OK || len(l) != 0 {
			t.Error(l, e)
		}
	}
	h = plain(heat.Room{Store: 1000, Limit: 22500})
	l, e = heat.Run(h, now, slices.Repeat([]heat.Case{{Load: []int{100000}}}, 6))
	if e != api.OK || !sameRows(l, [][]int{{22100}, {22200}, {22300}, {22400}, {22500}, {22600}}) {
		t.Error(l, e)
	}
}

func TestLongRun(t *testing.T) {
	h := plain(heat.Room{Store: 1})
	c := heat.Case{Load: []int{3}}
	l, e := heat.Run(h, []int{7}, slices.Repeat([]heat.Case{c}, heat.MaxTime))
	if e != api.OK || len(l) != heat.MaxTime || l[0][0] != 10 || l[heat.MaxTime-1][0] != 7+3*heat.MaxTime {
		t.Error(len(l), e)
	}
	wrong := heat.Case{Load: []int{-1, 3}, Out: -1, Pump: -1}
	for _, x := range []heat.Case{c, wrong} {
		if l, e := heat.Run(h, []int{-7}, slices.Repeat([]heat.Case{x}, heat.MaxTime+1)); e != api.ErrMany || len(l) != 0 {
			t.Error(len(l), e)
		}
	}
}

// TestRunIsNext compares with Next, second by second.
func TestRunIsNext(t *testing.T) {
	r := rand.New(rand.NewPCG(7, 3))
	for range 3000 {
		w := randomWorld(r)
		now := w.temperatures(r)
		var cases []heat.Case
		for range from(r, 0, 12) {
			cases = append(cases, w.happening(r))
		}
		l, e := heat.Run(w.Hall, now, cases)
		if e != api.OK || len(l) != len(cases) {
			t.Fatal(w, cases, l, e)
		}
		for i, c := range cases {
			now = nexted(t, w.Hall, now, c)
			if !slices.Equal(l[i], now) {
				t.Fatalf("%+v %+v: %v, not %v after case %d", w, cases, l, now, i)
			}
		}
	}
}
