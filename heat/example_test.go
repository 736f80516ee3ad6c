package heat_test

import (
	"fmt"

	"switchgear/heat"
)

// The example of README.md.
func Example() {
	h := heat.Hall{
		Rooms:    []heat.Room{{Store: 1000, Limit: 25000}},
		Walls:    []heat.Wall{{A: 0, B: -1, Pass: 10}},
		Branches: []heat.Branch{{Up: -1}, {Up: 0, Open: 50}, {Up: 0, Open: 50}},
		Coolers:  []heat.Cooler{{Room: 0, Branch: 1, Gain: 50, Carry: 4, Supply: 18000}},
	}
	now := []int{22000}
	cool := heat.Case{Load: []int{100000}, Out: 20000, Pump: 100000}
	warm := heat.Case{Load: []int{120000}, Out: 25000, Pump: 100}
	flows, e := heat.Flows(h, 100)
	fmt.Println(flows, e)
	watts, e := heat.Taken(h, now, 100)
	fmt.Println(watts, e)
	l, e := heat.Next(h, now, cool)
	fmt.Println(l, e)
	rows, e := heat.Run(h, now, []heat.Case{cool, warm})
	fmt.Println(rows, e)
	class := heat.Class{Low: cool, High: warm}
	ok, e := heat.Belongs(h, class, heat.Case{Load: []int{110000}, Out: 22000, Pump: 500})
	fmt.Println(ok, e)
	lows, highs, e := heat.Bounds(h, now, now, class, 3)
	fmt.Println(lows, highs, e)
	n, room, e := heat.Ride(h, now, class, 600)
	fmt.Println(n, room, e)
	l, n, e = heat.Settle(h, now, cool, 600)
	fmt.Println(l, n, e)
	ok, e = heat.Held(h, []int{19000}, []int{37000}, class)
	fmt.Println(ok, e)
	// Output:
	// [100 50 50] 0
	// [200] 0
	// [21880] 0
	// [[21880] [22031]] 0
	// true 0
	// [[21880] [21767] [21660]] [[22149] [22297] [22443]] 0
	// 23 0 0
	// [20000] 87 0
	// true 0
}
