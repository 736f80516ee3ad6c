package heat_test

import (
	"fmt"
	"math"
	"math/rand/v2"
	"slices"
	"testing"

	"switchgear/api"
	"switchgear/heat"
)

// twoRooms returns a class of cases for a hall with two rooms.
func twoRooms() heat.Class {
	return heat.Class{
		Low:  heat.Case{Load: []int{10, 20}, Out: 30, Pump: 50},
		High: heat.Case{Load: []int{15, 20}, Out: 40, Pump: 45},
	}
}

func TestBelongs(t *testing.T) {
	h := walled(10)
	for _, c := range []struct {
		name string
		c    heat.Case
		want bool
	}{
		{"Low", twoRooms().Low, true},
		{"High", twoRooms().High, true},
		{"one between", heat.Case{Load: []int{12, 20}, Out: 35, Pump: 47}, true},
		{"one at both ends", heat.Case{Load: []int{10, 20}, Out: 40, Pump: 50}, true},
		{"one at the other ends", heat.Case{Load: []int{15, 20}, Out: 30, Pump: 45}, true},
		{"the first load is less", heat.Case{Load: []int{9, 20}, Out: 35, Pump: 47}, false},
		{"the first load is greater", heat.Case{Load: []int{16, 20}, Out: 35, Pump: 47}, false},
		{"the second load is less", heat.Case{Load: []int{12, 19}, Out: 35, Pump: 47}, false},
		{"the second load is greater", heat.Case{Load: []int{12, 21}, Out: 35, Pump: 47}, false},
		{"the outside is colder", heat.Case{Load: []int{12, 20}, Out: 29, Pump: 47}, false},
		{"the outside is hotter", heat.Case{Load: []int{12, 20}, Out: 41, Pump: 47}, false},
		{"the pump is weaker", heat.Case{Load: []int{12, 20}, Out: 35, Pump: 44}, false},
		{"the pump is stronger", heat.Case{Load: []int{12, 20}, Out: 35, Pump: 51}, false},
	} {
		if ok, e := heat.Belongs(h, twoRooms(), c.c); ok != c.want || e != api.OK {
			t.Errorf("%s: %v %d", c.name, ok, e)
		}
	}
	one := twoRooms().Low
	if ok, e := heat.Belongs(h, alone(one), one); !ok || e != api.OK {
		t.Error(ok, e)
	}
}

// wrongClasses returns classes for a hall with two rooms, by what is wrong with them.
func wrongClasses() map[string]struct {
	heat.Class
	want api.Errno
} {
	list := map[string]struct {
		heat.Class
		want api.Errno
	}{}
	add := func(name string, want api.Errno, change func(low, high *heat.Case)) {
		k := twoRooms()
		change(&k.Low, &k.High)
		list[name] = struct {
			heat.Class
			want api.Errno
		}{k, want}
	}
	add("nothing", api.OK, func(low, high *heat.Case) {})
	add("nothing: all are equal", api.OK, func(low, high *heat.Case) { *high = copiedCase(*low) })
	add("nothing: all are at their limits", api.OK, func(low, high *heat.Case) {
		*low = heat.Case{Load: []int{0, 0}, Pump: heat.MaxFlow}
		*high = heat.Case{Load: []int{heat.MaxLoad, heat.MaxLoad}, Out: heat.MaxKelvin}
	})
	for name, of := range map[string]func(low, high *heat.Case) *heat.Case{
		"Low":  func(low, high *heat.Case) *heat.Case { return low },
		"High": func(low, high *heat.Case) *heat.Case { return high },
	} {
		add("no Load, "+name, api.ErrArg, func(low, high *heat.Case) { of(low, high).Load = nil })
		add("a Load less, "+name, api.ErrArg, func(low, high *heat.Case) { of(low, high).Load = []int{11} })
		add("a Load more, "+name, api.ErrArg, func(low, high *heat.Case) { of(low, high).Load = []int{11, 20, 20} })
		for _, n := range []int{-1, math.MinInt, math.MaxInt, heat.MaxLoad + 1} {
			add(fmt.Sprint("Load, ", name, n), api.ErrRange, func(low, high *heat.Case) { of(low, high).Load[1] = n })
			add(fmt.Sprint("Out, ", name, n), api.ErrRange, func(low, high *heat.Case) { of(low, high).Out = n })
			add(fmt.Sprint("Pump, ", name, n), api.ErrRange, func(low, high *heat.Case) { of(low, high).Pump = n })
		}
		add("Out is one more, "+name, api.ErrRange, func(low, high *heat.Case) { of(low, high).Out = heat.MaxKelvin + 1 })
		add("Pump is one more, "+name, api.ErrRange, func(low, high *heat.Case) { of(low, high).Pump = heat.MaxFlow + 1 })
	}
	add("the first Load", api.ErrBox, func(low, high *heat.Case) { low.Load[0] = 16 })
	add("the second Load", api.ErrBox, func(low, high *heat.Case) { low.Load[1] = 21 })
	add("the second Load of High", api.ErrBox, func(low, high *heat.Case) { high.Load[1] = 19 })
	add("Out", api.ErrBox, func(low, high *heat.Case) { low.Out = 41 })
	add("Pump", api.ErrBox, func(low, high *heat.Case) { low.Pump = 44 })
	add("all of it", api.ErrBox, func(low, high *heat.Case) { *low, *high = *high, *low })
	return list
}

func TestClasses(t *testing.T) {
	h := walled(10)
	low, high := []int{5, 5}, []int{500000, 500000}
	for name, k := range wrongClasses() {
		if _, e := heat.Belongs(h, k.Class, twoRooms().Low); e != k.want {
			t.Errorf("Belongs, %s: %d, not %d", name, e, k.want)
		}
		if _, _, e := heat.Bounds(h, low, high, k.Class, 1); e != k.want {
			t.Errorf("Bounds, %s: %d, not %d", name, e, k.want)
		}
		if _, _, e := heat.Ride(h, low, k.Class, 1); e != k.want {
			t.Errorf("Ride, %s: %d, not %d", name, e, k.want)
		}
		if _, e := heat.Held(h, low, high, k.Class); e != k.want {
			t.Errorf("Held, %s: %d, not %d", name, e, k.want)
		}
	}
}

func TestBounds(t *testing.T) {
	h, _, c := chapter()
	k := heat.Class{Low: copiedCase(c), High: copiedCase(c)}
	k.Low.Pump, k.Low.Load[0], k.High.Out = 50000, 90000, 21000
	lows, highs, e := heat.Bounds(h, []int{22000}, []int{23000}, k, 2)
	wantLow := [][]int{{(22000000 + 90000 - 20000 - 200000) / 1000}, {(21870000 + 90000 - 18700 - 193500) / 1000}}
	wantHigh := [][]int{{(23000000 + 100000 - 20000 - 400) / 1000}, {(23079000 + 100000 - 20790 - 400) / 1000}}
	if e != api.OK || !sameRows(lows, wantLow) || !sameRows(highs, wantHigh) {
		t.Error(lows, highs, e, wantLow, wantHigh)
	}
	lows, highs, e = heat.Bounds(h, []int{22000}, []int{23000}, k, 0)
	if e != api.OK || len(lows) != 0 || len(highs) != 0 {
		t.Error(lows, highs, e)
	}
	lows, highs, e = heat.Bounds(h, []int{22000}, []int{22000}, k, heat.MaxTime)
	if e != api.OK || len(lows) != heat.MaxTime || len(highs) != heat.MaxTime || lows[heat.MaxTime-1][0] >= highs[heat.MaxTime-1][0] {
		t.Error(len(lows), len(highs), e)
	}
	for _, n := range []int{-1, heat.MaxTime + 1, math.MinInt, math.MaxInt} {
		if lows, highs, e := heat.Bounds(h, []int{22000}, []int{23000}, k, n); e != api.ErrMany || len(lows) > 0 || len(highs) > 0 {
			t.Error(n, len(lows), len(highs), e)
		}
	}
}

func TestBoxes(t *testing.T) {
	h := walled(10)
	for _, c := range []struct {
		low, high []int
		want      api.Errno
	}{
		{[]int{5, 6}, []int{5, 6}, api.OK},
		{[]int{5, 6}, []int{7, 8}, api.OK},
		{[]int{0, 0}, []int{heat.MaxKelvin, heat.MaxKelvin}, api.OK},
		{[]int{6, 6}, []int{5, 6}, api.ErrBox},
		{[]int{5, 7}, []int{5, 6}, api.ErrBox},
		{[]int{5, 7}, []int{9, 6}, api.ErrBox},
		{[]int{heat.MaxKelvin, heat.MaxKelvin}, []int{0, 0}, api.ErrBox},
		{[]int{heat.MaxKelvin + 1, 0}, []int{0, 0}, api.ErrRange},
		{[]int{5, 6}, []int{4, -1}, api.ErrRange},
		{[]int{5, 6}, []int{4}, api.ErrArg},
		{[]int{5, 6, 7}, []int{4, 4}, api.ErrArg},
		{[]int{5}, []int{-4, -4}, api.ErrArg},
		{[]int{-5, -5}, nil, api.ErrArg},
	} {
		lows, highs, e := heat.Bounds(h, c.low, c.high, twoRooms(), 3)
		if e != c.want || (len(lows) == 3 && len(highs) == 3) != (e == api.OK) || e != api.OK && len(lows)+len(highs) > 0 {
			t.Errorf("Bounds, %v %v: %v %v %d", c.low, c.high, lows, highs, e)
		}
		if ok, e := heat.Held(h, c.low, c.high, twoRooms()); e != c.want || e != api.OK && ok {
			t.Errorf("Held, %v %v: %v %d", c.low, c.high, ok, e)
		}
	}
}

// TestBoundsIsRun compares with Run.
func TestBoundsIsRun(t *testing.T) {
	r := rand.New(rand.NewPCG(7, 4))
	for range 2000 {
		w := randomWorld(r)
		low, high := w.box(r)
		k, n := w.class(r), from(r, 0, 9)
		lows, highs, e := heat.Bounds(w.Hall, low, high, k, n)
		if e != api.OK {
			t.Fatal(w, low, high, k, e)
		}
		wantLow, _ := heat.Run(w.Hall, low, slices.Repeat([]heat.Case{k.Low}, n))
		wantHigh, _ := heat.Run(w.Hall, high, slices.Repeat([]heat.Case{k.High}, n))
		if !sameRows(lows, wantLow) || !sameRows(highs, wantHigh) {
			t.Fatalf("%+v %v %v %+v: %v %v, not %v %v", w, low, high, k, lows, highs, wantLow, wantHigh)
		}
	}
}

// ridden calls Ride, which must have no error.
func ridden(t *testing.T, name string, h heat.Hall, now []int, k heat.Class, most, seconds, room int) {
	t.Helper()
	if n, i, e := heat.Ride(h, now, k, most); n != seconds || i != room || e != api.OK {
		t.Errorf("%s: %d %d %d, not %d %d", name, n, i, e, seconds, room)
	}
}

func TestRide(t *testing.T) {
	h := plain(heat.Room{Store: 1000, Limit: 22500})
	k := heat.Class{Low: heat.Case{Load: []int{0}}, High: heat.Case{Load: []int{100000}}}
	now := []int{22000}
	ridden(t, "the document's example", h, now, k, 100, 6, 0)
	ridden(t, "in the last second", h, now, k, 6, 6, 0)
	ridden(t, "a second later than the last one", h, now, k, 5, 6, -1)
	ridden(t, "long after the last one", h, now, k, 2, 3, -1)
	ridden(t, "no second", h, now, k, 0, 1, -1)
	ridden(t, "no second, but hot", h, []int{22501}, k, 0, 0, 0)
	ridden(t, "just not hot", h, []int{22500}, k, 9, 1, 0)
	ridden(t, "just not hot, and no second", h, []int{22500}, k, 0, 1, -1)
	ridden(t, "hot at first", h, []int{22501}, k, 100, 0, 0)
	ridden(t, "hot after a second", h, []int{22401}, k, 1, 1, 0)
	ridden(t, "at its limit after a second", h, []int{22400}, k, 1, 2, -1)
	ridden(t, "Low does not matter", h, now, alone(k.High), 100, 6, 0)
	ridden(t, "never", h, now, alone(k.Low), heat.MaxTime, heat.MaxTime+1, -1)
	ridden(t, "never more than can be", plain(heat.Room{Store: 1, Limit: heat.MaxKelvin}), now, k, heat.MaxTime, heat.MaxTime+1, -1)
	ridden(t, "never cold enough", plain(heat.Room{Store: 1}), []int{0}, k, 9, 1, 0)
	slow := alone(heat.Case{Load: []int{1}})
	ridden(t, "in the last second of all", plain(heat.Room{Store: 1, Limit: heat.MaxTime - 1}), []int{0}, slow, heat.MaxTime, heat.MaxTime, 0)
	ridden(t, "after the last second of all", plain(heat.Room{Store: 1, Limit: heat.MaxTime}), []int{0}, slow, heat.MaxTime, heat.MaxTime+1, -1)
	for _, most := range []int{-1, heat.MaxTime + 1, math.MinInt, math.MaxInt} {
		if n, i, e := heat.Ride(h, now, k, most); n != 0 || i != 0 || e != api.ErrMany {
			t.Error(most, n, i, e)
		}
		if n, i, e := heat.Ride(h, []int{22501}, k, most); n != 0 || i != 0 || e != api.ErrMany {
			t.Error(most, n, i, e)
		}
	}
}

func TestRideOfRooms(t *testing.T) {
	h := plain(heat.Room{Store: 10, Limit: 100}, heat.Room{Store: 10, Limit: 200}, heat.Room{Store: 10, Limit: 50})
	k := alone(heat.Case{Load: []int{10, 20, 10}})
	ridden(t, "the first", h, []int{99, 100, 10}, k, 90, 2, 0)
	ridden(t, "the second", h, []int{50, 195, 0}, k, 90, 3, 1)
	ridden(t, "the third", h, []int{50, 0, 49}, k, 90, 2, 2)
	ridden(t, "the second and the third", h, []int{50, 197, 49}, k, 90, 2, 1)
	ridden(t, "all at once", h, []int{98, 195, 48}, k, 90, 3, 0)
	ridden(t, "the third and the first", h, []int{98, 0, 48}, k, 90, 3, 0)
	ridden(t, "two are hot at first", h, []int{0, 201, 51}, k, 90, 0, 1)
	ridden(t, "all are hot at first", h, []int{101, 201, 51}, k, 90, 0, 0)
	ridden(t, "the last is hot at first", h, []int{100, 200, 51}, k, 90, 0, 2)
	ridden(t, "a later one is hot earlier", h, []int{90, 0, 45}, k, 90, 6, 2)
}

// TestRideIsBounds compares with the upper bounds.
func TestRideIsBounds(t *testing.T) {
	r := rand.New(rand.NewPCG(7, 5))
	met := [3]int{}
	for range 5000 {
		w := randomWorld(r)
		now, k, most := w.temperatures(r), w.class(r), from(r, 0, 12)
		if r.IntN(4) > 0 {
			for i := range w.Rooms {
				w.Rooms[i].Limit = min(heat.MaxKelvin, now[i]+from(r, 0, 90))
			}
		}
		_, highs, e := heat.Bounds(w.Hall, now, now, k, most)
		if e != api.OK {
			t.Fatal(w, e)
		}
		n := slices.IndexFunc(append([][]int{now}, highs...), func(l []int) bool { return hottest(w.Hall, l) >= 0 })
		room := -1
		switch {
		case n < 0:
			n = most + 1
			met[0]++
		case n == 0:
			room = hottest(w.Hall, now)
			met[1]++
		default:
			room = hottest(w.Hall, highs[n-1])
			met[2]++
		}
		ridden(t, "random", w.Hall, now, k, most, n, room)
	}
	if slices.Min(met[:]) < 500 {
		t.Error("met:", met)
	}
}

// hottest returns the least room that has more than its limit, or -1.
func hottest(h heat.Hall, now []int) int {
	for i, n := range now {
		if n > h.Rooms[i].Limit {
			return i
		}
	}
	return -1
}
