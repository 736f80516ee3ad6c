package guard_test

import (
	"fmt"

	"switchgear/guard"
	"switchgear/plant"
)

// The example of README.md.
func Example() {
	p, _, _ := plant.Parse("plant 2\nsource 0 grid 500 0 20\nlink 0 1 breaker 400 10 1000:400 10000:100\nrack 1 -1 100 1\n")
	s, _ := plant.Initial(p)
	s.On[0], s.Closed[0] = true, true
	fmt.Println(guard.Delay(p.Links[0], 9999))
	x, e := guard.Clear(p, s, 1)
	fmt.Println(x.Events, x.Cleared, x.Millis, x.Energy, x.State.Closed, e)
	fmt.Println(guard.Selective(p, s, 1))
	l, e := guard.Survey(p, s)
	fmt.Println(len(l), l[0].Cleared, e)
	fmt.Println(guard.Worst(p, s))
	fmt.Println(guard.Lost(p, s, 1))
	// Output:
	// 400 true
	// [{100 0}] true 100 17779600 [false] 0
	// true 0
	// 2 false 0
	// 1 17779600 0
	// [0] 0
}
