package plant_test

import (
	"fmt"

	"switchgear/api"
	"switchgear/plant"
)

// The example of README.md.
func Example() {
	p, line, e := plant.Parse("plant 2\nsource 0 grid 500 0 20\nlink 0 1 breaker 400 10 1000:400\nrack 1 -1 100 1\n")
	fmt.Println(line, e)
	s, e := plant.Initial(p)
	s.On[0], s.Closed[0] = true, true
	live, e := plant.Live(p, s)
	fmt.Println(live, e)
	s, e = plant.Break(p, s, api.Part{Kind: api.LinkPart, Index: 0})
	fed, e := plant.Fed(p, s)
	fmt.Println(fed, e)
	text, e := plant.Show(p, s)
	fmt.Print(text)
	// Output:
	// 0 0
	// [true true] 0
	// [[false false]] 0
	// on 1
	// badsource 0
	// closed 1
	// locked 0
	// badlink 1
	// earthed 00
	// badbus 00
}
