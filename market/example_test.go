package market_test

import (
	"fmt"

	"switchgear/market"
)

// The example of README.md.
func Example() {
	d := market.Day{
		Hours: []market.Hour{{Buy: 10, Load: 2, Carbon: 400, Water: 2}, {Buy: 30, Load: 2, Carbon: 300, Water: 2}},
		Store: market.Store{Full: 2, Power: 2},
		Jobs:  []market.Job{{From: 0, To: 2, Hours: 1, Power: 3}},
		Most:  10,
	}
	l, e := market.Starts(d)
	fmt.Println(l, e)
	n, e := market.Cost(d, market.Plan{Starts: []int{1}, Charge: []int{0, 0}})
	fmt.Println(n, e)
	p, proof, e := market.Best(d)
	fmt.Println(p, len(proof), len(proof[0]), e)
	e = market.Verify(d, p, proof)
	fmt.Println(e)
	o := market.Offer{From: 0, To: 2, Power: 2, Hours: 1, Calls: 1}
	patterns, e := market.Patterns(d, o)
	fmt.Println(patterns, e)
	charge, ok, e := market.Answer(d, p, o, []int{0})
	fmt.Println(charge, ok, e)
	ok, pattern, e := market.Deliver(d, p, o)
	fmt.Println(ok, pattern, e)
	rows, sums, e := market.Ledger(d, p)
	fmt.Println(rows, sums, e)
	// Output:
	// [[0] [1]] 0
	// 170 0
	// {[0] [2 -2] 70} 2 99 0
	// 0
	// [[] [0] [1]] 0
	// [0 2] true 0
	// false [1] 0
	// [{7 0 0 5 2 2800 10} {0 0 0 2 -2 0 4}] {7 0 0 7 0 2800 14} 0
}
