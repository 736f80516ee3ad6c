package paths_test

import (
	"fmt"

	"switchgear/api"
	"switchgear/paths"
	"switchgear/plant"
)

// The example of README.md.
func Example() {
	p, _, _ := plant.Parse("plant 4\nsource 0 grid 500 0 20\nsource 1 grid 500 0 20\nlink 0 2 breaker 400 10\nlink 1 3 breaker 400 10\nlink 2 3 breaker 400 10\nrack 2 3 100 2\n")
	s, _ := plant.Initial(p)
	s.On[0], s.On[1], s.Closed[0], s.Closed[1] = true, true, true, true
	n, e := paths.Strength(p, s, 0)
	fmt.Println(n, e)
	l, e := paths.Ways(p, s, 0)
	fmt.Println(l, e)
	fmt.Println(paths.CheckWays(p, s, 0, l) == api.OK)
	transfers := []paths.Transfer{{Watch: 3, Open: 1, Close: 2}}
	grid := []api.Part{{Kind: api.SourcePart, Index: 1}}
	after, e := paths.After(p, s, transfers, grid)
	fmt.Println(after.Closed, e)
	parts, e := paths.Critical(p, after, 0)
	fmt.Println(parts, e)
	breaches, e := paths.Promise(p, s, transfers)
	fmt.Println(breaches, e)
	breaches, e = paths.Promise(p, after, transfers)
	fmt.Println(len(breaches), e)
	racks, e := paths.Dark(p, after, transfers, parts[:1])
	fmt.Println(racks, e)
	weak, e := paths.Weak(p, s, transfers, true)
	fmt.Println(len(weak), weak[0], e)
	// Output:
	// 2 0
	// [[{2 0} {1 0} {3 0} {1 2}] [{2 1} {1 1} {3 1} {1 3}]] 0
	// true
	// [true false true] 0
	// [{1 0} {1 2} {2 0} {3 0}] 0
	// [] 0
	// 4 0
	// [0] 0
	// 16 [{1 0} {1 1}] 0
}
