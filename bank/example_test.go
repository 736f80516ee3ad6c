package bank_test

import (
	"fmt"

	"switchgear/bank"
)

// The example of README.md.
func Example() {
	b := bank.Bank{
		Batteries:  []bank.Battery{{Energy: 1000, Full: 1000, Power: 100, Charge: 10}},
		Generators: []bank.Generator{{Power: 100, Ramp: 20, Delay: 5, Pause: 2, Tries: 2}},
	}
	load := []bank.Span{{Seconds: 60, Power: 100}}
	t, e := bank.Start(b.Generators[0], 1)
	fmt.Println(t, e)
	x, e := bank.Run(b, load, []int{0})
	fmt.Println(x, e)
	l, e := bank.Trace(b, load, []int{0})
	fmt.Println(l[:3], len(l), e)
	fails, x, e := bank.Worst(b, load, 1)
	fmt.Println(fails, x.Dark, e)
	n, e := bank.Hold(b, 100, 1)
	fmt.Println(n, e)
	n, e = bank.Lack(b, load, []int{1})
	fmt.Println(n, e)
	n, e = bank.Least(b, load, 2)
	fmt.Println(n, e)
	// Output:
	// 12 0
	// {-1 [300] [5300] 6000} 0
	// [[900] [800] [700]] 60 0
	// [1] 10 0
	// 10 0
	// 400 0
	// 5000 0
}
