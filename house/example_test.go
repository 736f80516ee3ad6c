package house_test

import (
	"fmt"
	"slices"

	"switchgear/api"
	"switchgear/bank"
	"switchgear/heat"
	"switchgear/house"
	"switchgear/meter"
	"switchgear/paths"
	"switchgear/plant"
)

// The example of README.md.
func Example() {
	p, _, _ := plant.Parse("plant 4\nsource 0 grid 500 0 20\nsource 1 grid 500 0 20\nlink 0 2 breaker 400 10 100:20\nlink 1 3 breaker 400 10 100:20\nlink 2 3 breaker 400 10 100:20\nrack 2 3 100 2\nrack 3 -1 50 0\n")
	s, _ := plant.Initial(p)
	s.On[0], s.On[1], s.Closed[0], s.Closed[1] = true, true, true, true
	c := house.Setup{
		Plant:     p,
		State:     s,
		Transfers: []paths.Transfer{{Watch: 3, Open: 1, Close: 2}},
		Bank: bank.Bank{
			Batteries:  []bank.Battery{{Energy: 1000, Full: 1000, Power: 200, Charge: 10}},
			Generators: []bank.Generator{{Power: 200, Ramp: 40, Delay: 5, Pause: 2, Tries: 2}},
		},
		Fails:  1,
		Hall:   heat.Hall{Rooms: []heat.Room{{Store: 1000, Limit: 22500}}},
		Class:  heat.Class{Low: heat.Case{Load: []int{0}}, High: heat.Case{Load: []int{100000}}},
		Heat:   []int{22000},
		Tariff: meter.Tariff{Price: slices.Repeat([]int{20}, 24)},
		Key:    7,
		Disks:  []int{12, 3},
	}
	h, e := house.Open(c)
	hour := house.Order{Kind: house.Hour}
	h.Act(hour)
	fmt.Println(h.Act(house.Order{Kind: house.Fault, Part: api.Part{Kind: api.SourcePart, Index: 1}}))
	fmt.Println(h.Act(house.Order{Kind: house.Fault, Part: api.Part{Kind: api.BusPart, Index: 3}}))
	h.Act(hour)
	fmt.Println(h.Rows())
	fmt.Println(h.Bill(1))
	fmt.Println(h.Act(house.Order{Kind: house.Retire, Rack: 1}).Error == api.ErrState)
	h.Act(house.Order{Kind: house.Destroy, Rack: 1, Count: 3})
	h.Act(house.Order{Kind: house.Retire, Rack: 1})
	chain, e := h.Chain()
	n, e := meter.Verify(7, chain)
	fmt.Println(n, e)
	fmt.Println(h.Ride())
	findings, e := house.Commission(c, house.Claims{Two: true, Selective: true, Arc: 3555919, Ride: 5})
	fmt.Println(findings, e)
	fmt.Println(house.Stranded(c))
	h, events, e := house.Run(c, []house.Order{hour, hour})
	rows, _ := h.Rows()
	fmt.Println(len(events), len(rows), e)
	// Output:
	// {0 [] []}
	// {0 [1] []}
	// [{150 150 150 0} {150 100 100 1}] 0
	// {50 1000 0 1000} 0
	// true
	// 4 0
	// {5 10 5} 0
	// [{2 0 {1 0} 0} {2 0 {1 1} 0} {3 0 {1 2} 3555920} {3 0 {1 3} 3555920}] 0
	// {1000 800 [{3 0} {3 1}]} 0
	// 2 2 0
}
