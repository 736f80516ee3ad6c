package work_test

import (
	"fmt"

	"switchgear/api"
	"switchgear/plant"
	"switchgear/work"
)

// The example of README.md.
func Example() {
	p, _, _ := plant.Parse("plant 4\nsource 0 grid 500 0 20\nsource 1 grid 500 0 20\nlink 0 2 breaker 400 10\nlink 1 3 breaker 400 10\nlink 2 3 breaker 400 10\nrack 2 3 100 2\n")
	s, _ := plant.Initial(p)
	s.On[0], s.On[1], s.Closed[0], s.Closed[1] = true, true, true, true
	first := work.Job{Parts: []api.Part{{Kind: api.LinkPart, Index: 0}}, Hours: 2, From: 0, To: 10, People: 2}
	second := work.Job{Parts: []api.Part{{Kind: api.LinkPart, Index: 1}}, Hours: 3, From: 0, To: 10, People: 2}
	y := work.Yard{Plant: p, State: s, Jobs: []work.Job{first, second}, People: 10}
	ok, e := work.Bearable(y, []int{0})
	fmt.Println(ok, e)
	sets, e := work.Why(y)
	fmt.Println(sets, e)
	starts, e := work.Plan(y)
	fmt.Println(starts, e)
	end, e := work.Verify(y, starts)
	fmt.Println(end, e)
	hour, e := work.Verify(y, []int{4, 2})
	fmt.Println(hour, e)
	spare, e := work.Spare(y, []int{0, 3})
	fmt.Println(spare, e)
	y.Redundant = true
	sets, e = work.Why(y)
	fmt.Println(sets, e)
	_, e = work.Plan(y)
	fmt.Println(e)
	// Output:
	// true 0
	// [[0 1]] 0
	// [0 2] 0
	// 5 0
	// 4 120
	// [0 0 1 0 0 0] 0
	// [[0] [1]] 0
	// 4
}
