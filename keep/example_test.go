package keep_test

import (
	"fmt"

	"switchgear/heat"
	"switchgear/keep"
)

// The example of README.md.
func Example() {
	g := keep.Game{
		States: 3, Controls: 2, Shocks: 2, // cool, warm, hot; off, on; calm, sun
		Next: []int{0, 1, 0, 0, 1, 2, 0, 1, 2, 2, 2, 2},
		Good: []bool{true, true, false},
	}
	r, e := keep.Solve(g)
	fmt.Println(r.In, r.Control, r.Rank, e)
	e = keep.Verify(g, r)
	fmt.Println(e)
	states, e := keep.Play(g, r, 0, []int{1, 1, 0})
	fmt.Println(states, e)
	less, e := keep.Without(g, 1)
	fmt.Println(less.Controls, e)
	lost, e := keep.Solve(less)
	fmt.Println(lost.In, lost.Rank, e)
	shocks, states, e := keep.Force(less, lost, 0, []int{0, 0})
	fmt.Println(shocks, states, e)
	both, e := keep.Product(g, g)
	fmt.Println(both.States, both.Controls, both.Shocks, e)
	h := heat.Hall{Rooms: []heat.Room{{Store: 1000, Limit: 30000}}, Walls: []heat.Wall{{A: 0, B: -1, Pass: 500}}}
	class := heat.Class{Low: heat.Case{Load: []int{0}, Out: 18000}, High: heat.Case{Load: []int{1000000}, Out: 25000}}
	low, high, n, e := keep.Box(h, []int{20000}, []int{24000}, class, 600)
	fmt.Println(low, high, n, e)
	// Output:
	// [true true false] [0 1 -1] [-1 -1 0] 0
	// 0
	// [1 1 0] 0
	// 1 0
	// [false false false] [2 1 0] 0
	// [1 1] [1 2] 0
	// 9 4 4 0
	// [18000] [26999] 12 0
}
