package heat_test

import (
	"math"
	"math/rand/v2"
	"slices"
	"testing"

	"switchgear/api"
	"switchgear/heat"
)

// settled calls Settle and compares.
func settled(t *testing.T, name string, h heat.Hall, now []int, c heat.Case, most int, want []int, seconds int, err api.Errno) {
	t.Helper()
	l, n, e := heat.Settle(h, now, c, most)
	if !slices.Equal(l, want) || n != seconds || e != err {
		t.Errorf("%s: %v %d %d, not %v %d %d", name, l, n, e, want, seconds, err)
	}
}

func TestSettle(t *testing.T) {
	still := heat.Case{Load: []int{0}}
	room := plain(heat.Room{Store: 10})
	settled(t, "settled at once", room, []int{500}, still, 1, []int{500}, 0, api.OK)
	settled(t, "settled at once, with much time", room, []int{500}, still, heat.MaxTime, []int{500}, 0, api.OK)
	settled(t, "no second", room, []int{500}, still, 0, nil, 0, api.ErrTime)
	settled(t, "a load that is too small", room, []int{500}, heat.Case{Load: []int{9}}, 1, []int{500}, 0, api.OK)
	hot := heat.Case{Load: []int{10}}
	top := heat.MaxKelvin
	settled(t, "settled at the top", room, []int{top - 3}, hot, 4, []int{top}, 3, api.OK)
	settled(t, "settled at the top, with more time", room, []int{top - 3}, hot, 9, []int{top}, 3, api.OK)
	settled(t, "the last second changes something", room, []int{top - 3}, hot, 3, nil, 0, api.ErrTime)
	settled(t, "the last second changes something, and more would", room, []int{top - 3}, hot, 1, nil, 0, api.ErrTime)
	settled(t, "not in time", room, []int{0}, hot, heat.MaxTime, nil, 0, api.ErrTime)
	settled(t, "in the last second of all", room, []int{top - heat.MaxTime + 1}, hot, heat.MaxTime, []int{top}, heat.MaxTime-1, api.OK)
	settled(t, "a second later than that", room, []int{top - heat.MaxTime}, hot, heat.MaxTime, nil, 0, api.ErrTime)
	// Half of the difference to the outside goes in each second: 80, 40, 20, 10, 5, 2, 1, 0.
	wall := heat.Hall{Rooms: []heat.Room{{Store: 2}}, Walls: []heat.Wall{{A: 0, B: -1, Pass: 1}}}
	out := heat.Case{Load: []int{0}, Out: 100}
	settled(t, "from above", wall, []int{180}, out, 8, []int{100}, 7, api.OK)
	settled(t, "from above, not in time", wall, []int{180}, out, 7, nil, 0, api.ErrTime)
	// From below it stays one short of the outside: 20, 60, 80, 90, 95, 97, 98, 99.
	settled(t, "from below", wall, []int{20}, out, 8, []int{99}, 7, api.OK)
	settled(t, "at the outside", wall, []int{100}, out, 1, []int{100}, 0, api.OK)
	// One room is settled before the other one.
	two := walled(2, heat.Wall{A: 1, B: -1, Pass: 1})
	settled(t, "one room", two, []int{7, 180}, heat.Case{Load: []int{0, 0}, Out: 100}, 8, []int{7, 100}, 7, api.OK)
	two = walled(2, heat.Wall{A: 0, B: -1, Pass: 1})
	settled(t, "the other room", two, []int{180, 7}, heat.Case{Load: []int{0, 0}, Out: 100}, 8, []int{100, 7}, 7, api.OK)
	for _, most := range []int{-1, heat.MaxTime + 1, math.MinInt, math.MaxInt} {
		settled(t, "a wrong time", room, []int{500}, still, most, nil, 0, api.ErrMany)
		settled(t, "a wrong time, and it is not settled", room, []int{500}, hot, most, nil, 0, api.ErrMany)
	}
}

// TestSettleForEver has rooms that exchange their temperatures in each second.
func TestSettleForEver(t *testing.T) {
	h := walled(10, heat.Wall{A: 0, B: 1, Pass: 10})
	settled(t, "for ever", h, []int{400, 500}, heat.Case{Load: []int{0, 0}}, heat.MaxTime, nil, 0, api.ErrTime)
	settled(t, "equal", h, []int{500, 500}, heat.Case{Load: []int{0, 0}}, heat.MaxTime, []int{500, 500}, 0, api.OK)
}

// TestSettleIsNext compares with Next, second by second.
func TestSettleIsNext(t *testing.T) {
	r := rand.New(rand.NewPCG(7, 6))
	met := [3]int{}
	for range 10000 {
		w := randomWorld(r)
		now, c, most := w.temperatures(r), w.happening(r), from(r, 0, 60)
		want, seconds, err := []int(nil), 0, api.ErrTime
		for i, l := 0, now; i < most; i++ {
			after := nexted(t, w.Hall, l, c)
			if slices.Equal(after, l) {
				want, seconds, err = l, i, api.OK
				break
			}
			l = after
		}
		settled(t, "random", w.Hall, now, c, most, want, seconds, err)
		switch {
		case err != api.OK:
			met[0]++
		case seconds == 0:
			met[1]++
		default:
			met[2]++
		}
	}
	if slices.Min(met[:]) < 500 {
		t.Error("met:", met)
	}
}

// held calls Held and compares.
func held(t *testing.T, name string, h heat.Hall, low, high []int, k heat.Class, want bool) {
	t.Helper()
	if ok, e := heat.Held(h, low, high, k); ok != want || e != api.OK {
		t.Errorf("%s: %v %d", name, ok, e)
	}
}

func TestHeld(t *testing.T) {
	wall := heat.Hall{Rooms: []heat.Room{{Store: 10}}, Walls: []heat.Wall{{A: 0, B: -1, Pass: 1}}}
	k := heat.Class{Low: heat.Case{Load: []int{0}, Out: 100}, High: heat.Case{Load: []int{30}, Out: 200}}
	one := func(n int) []int { return []int{n} }
	held(t, "a great box", wall, one(0), one(heat.MaxKelvin), k, true)
	held(t, "just the outside and the load", wall, one(100), one(230), k, true)
	held(t, "colder than the outside", wall, one(95), one(230), k, true)
	held(t, "Low goes below it", wall, one(101), one(230), k, false)
	held(t, "High goes hardly above it", wall, one(100), one(221), k, true)
	held(t, "High goes above it", wall, one(100), one(220), k, false)
	held(t, "both leave it", wall, one(150), one(160), k, false)
	held(t, "hotter than all", wall, one(100), one(500), k, true)
	held(t, "a point", plain(heat.Room{Store: 10}), one(100), one(100), alone(heat.Case{Load: []int{9}}), true)
	held(t, "a point that gets hotter", plain(heat.Room{Store: 10}), one(100), one(100), alone(heat.Case{Load: []int{10}}), false)
	held(t, "a point at the top", plain(heat.Room{Store: 10}), one(heat.MaxKelvin), one(heat.MaxKelvin), alone(heat.Case{Load: []int{heat.MaxLoad}}), true)
	held(t, "only Low would be held", plain(heat.Room{Store: 10}), one(0), one(100), heat.Class{Low: heat.Case{Load: []int{0}}, High: heat.Case{Load: []int{10}}}, false)
	// The first room is held; the second one is not.
	two := walled(10, heat.Wall{A: 1, B: -1, Pass: 1})
	for _, c := range []struct {
		low, high, out int
		want           bool
	}{{100, 200, 150, true}, {100, 200, 99, false}, {100, 191, 201, false}, {100, 200, 209, true}, {100, 200, 210, false}} {
		k := alone(heat.Case{Load: []int{0, 0}, Out: c.out})
		held(t, "the second room", two, []int{5, c.low}, []int{5, c.high}, k, c.want)
	}
	// With the strong pump the room goes towards 20000, with the weak one towards 29960.
	h, _, c := chapter()
	k = alone(copiedCase(c))
	k.Low.Pump = 50000
	held(t, "only the strong pump", h, one(19000), one(24000), alone(k.Low), true)
	held(t, "the weak pump leaves it", h, one(19000), one(24000), k, false)
	held(t, "both pumps", h, one(19000), one(30000), k, true)
	held(t, "the strong pump leaves it", h, one(22000), one(30000), k, false)
	held(t, "only the weak pump", h, one(22000), one(30000), alone(k.High), true)
}
