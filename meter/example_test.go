package meter_test

import (
	"fmt"

	"switchgear/meter"
)

// The example of README.md.
func Example() {
	const key = 7
	chain, e := meter.Sign(key, []meter.Reading{{Meter: 0, Hour: 0, Value: 100}, {Meter: 1, Hour: 0, Value: 60}, {Meter: 0, Hour: 1, Value: 90}})
	fmt.Println(len(chain), e)
	n, e := meter.Verify(key, chain)
	fmt.Println(n, e)
	table, e := meter.Table(chain)
	fmt.Println(table, e)
	chain[1].Reading.Value = 61
	n, e = meter.Verify(key, chain)
	fmt.Println(n, e)
	c := meter.Case{Nodes: []meter.Node{{Up: -1, Low: 0, High: 5}, {Up: 0}, {Up: 0}}, Values: []int{100, 60, 50}}
	nodes, e := meter.Broken(c)
	fmt.Println(nodes, e)
	sets, e := meter.Least(c)
	fmt.Println(sets, e)
	ok, e := meter.Explains(c, []int{1, 2})
	fmt.Println(ok, e)
	values, e := meter.Repair(c, []int{1})
	fmt.Println(values, e)
	t := meter.Tariff{Price: make([]int, 24), Base: 100, Tiers: []meter.Tier{{Minutes: 30, Percent: 10}}, Credit: 20}
	for hour := range t.Price {
		t.Price[hour] = 10
	}
	bill, e := meter.Make(t, meter.Use{Values: []int{20, 30}, Out: 45})
	fmt.Println(bill, e)
	bills, sum, e := meter.Total(t, []meter.Use{{Values: []int{20, 30}, Out: 45}, {Values: []int{5}}})
	fmt.Println(bills, sum, e)
	// Output:
	// 3 0
	// 3 0
	// [[0 190] [1 60]] 0
	// 1 7
	// [0] 0
	// [[0] [1] [2]] 0
	// true 0
	// [100 45 50] 0
	// {50 600 60 540} 0
	// [{50 600 60 540} {5 150 0 150}] {55 750 60 690} 0
}
