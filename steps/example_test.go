package steps_test

import (
	"fmt"

	"switchgear/api"
	"switchgear/plant"
	"switchgear/steps"
)

// The example of README.md.
func Example() {
	p, _, _ := plant.Parse("plant 3\nsource 0 grid 500 0 20\nlink 0 1 breaker 400 10\nlink 1 2 switch 400 10\nrack 1 -1 100 1\n")
	s, _ := plant.Initial(p)
	s.On[0], s.Closed[0], s.Closed[1] = true, true, true
	fmt.Println(steps.Legal(p, s, steps.Task{Fed: []int{0}}) == api.OK)
	_, e := steps.Do(p, s, api.Step{Deed: api.Open, Index: 1})
	fmt.Println(e == api.ErrArc)
	task := steps.Task{
		Allowed: []api.Step{{Deed: api.Open, Index: 0}, {Deed: api.Close, Index: 0}, {Deed: api.Open, Index: 1}},
		Goal:    []api.Step{{Deed: api.Open, Index: 1}, {Deed: api.Close, Index: 0}},
	}
	l, _, e := steps.Find(p, s, task, steps.MaxStates)
	fmt.Println(l, e)
	n, after, e := steps.Verify(p, s, task, l)
	fmt.Println(n, after.Closed, e)
	n, before, e := steps.Verify(p, after, task, steps.Reverse(l))
	fmt.Println(n, before.Closed, e)
	task.Fed = []int{0}
	_, states, e := steps.Find(p, s, task, steps.MaxStates)
	fmt.Println(len(states), e == api.ErrNone)
	fmt.Println(steps.Closed(p, s, task, states) == api.OK)
	// Output:
	// true
	// true
	// [{1 0} {1 1} {2 0}] 0
	// 3 [true false] 0
	// 3 [true true] 0
	// 1 true
	// true
}
