package flow_test

import (
	"fmt"

	"switchgear/flow"
	"switchgear/plant"
)

// The example of README.md.
func Example() {
	p, _, _ := plant.Parse("plant 2\nsource 0 grid 500 0 20\nlink 0 1 breaker 400 10\nrack 1 -1 450 1\n")
	s, _ := plant.Initial(p)
	s.On[0], s.Closed[0] = true, true
	x, cut, e := flow.Serve(p, s)
	fmt.Println(x, cut, e)
	fmt.Println(flow.Amount(x), flow.Certify(p, s, x, cut))
	parts, e := flow.Tight(p, s)
	fmt.Println(parts, e)
	l, e := flow.Shorts(p, s, 1)
	fmt.Println(l, e)
	// Output:
	// {[400] [400] [[400 0]]} [true false] 0
	// 400 0
	// [{3 0}] 0
	// [{0 30 13334 [0]}] 0
}
