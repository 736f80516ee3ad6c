package bank_test

import (
	"math/rand/v2"
	"slices"
	"testing"

	"switchgear/api"
	"switchgear/bank"
)

// chapter returns the bank and the load of the chapter's examples.
func chapter() (bank.Bank, []bank.Span) {
	b := bank.Bank{
		Batteries:  []bank.Battery{{Energy: 1000, Full: 1000, Power: 100, Charge: 10}},
		Generators: []bank.Generator{{Power: 100, Ramp: 20, Delay: 5, Pause: 2, Tries: 2}},
	}
	return b, []bank.Span{{Seconds: 60, Power: 100}}
}

// steady returns a generator that gives all its power from second 0 on, if it does not fail.
func steady(power int) bank.Generator {
	return bank.Generator{Power: power, Ramp: power, Tries: 1}
}

// cells returns a bank that has only batteries.
func cells(l ...bank.Battery) bank.Bank { return bank.Bank{Batteries: l} }

// sameResult reports whether two results are equal.
func sameResult(x, y bank.Result) bool {
	return x.Dark == y.Dark && x.Served == y.Served && slices.Equal(x.Energy, y.Energy) && slices.Equal(x.Burnt, y.Burnt)
}

// sameRows reports whether two traces are equal.
func sameRows(a, b [][]int) bool { return slices.EqualFunc(a, b, slices.Equal) }

// copied returns an equal bank that shares no memory with b.
func copied(b bank.Bank) bank.Bank {
	return bank.Bank{Batteries: slices.Clone(b.Batteries), Generators: slices.Clone(b.Generators)}
}

// ran plays a load that must have no error.
func ran(t *testing.T, b bank.Bank, load []bank.Span, fails []int) bank.Result {
	t.Helper()
	x, e := bank.Run(b, load, fails)
	if e != api.OK {
		t.Fatalf("Run: error %d: %+v %v %v", e, b, load, fails)
	}
	return x
}

// sum returns the sum of a list.
func sum(list []int) int {
	n := 0
	for _, x := range list {
		n += x
	}
	return n
}

// told is what the chapter says of a play.
type told struct {
	bank.Result
	trace [][]int
	lack  int
}

// tell plays a load by the chapter's words, kilowatt by kilowatt. It goes on after dark seconds for the lack; the rest is that of the play that ends.
func tell(b bank.Bank, load []bank.Span, fails []int) told {
	x := told{Result: bank.Result{Dark: -1, Energy: make([]int, len(b.Batteries)), Burnt: make([]int, len(b.Generators))}}
	held := make([]int, len(b.Batteries))
	for i, y := range b.Batteries {
		held[i], x.Energy[i] = y.Energy, y.Energy
	}
	second := 0
	for _, span := range load {
		for range span.Seconds {
			burnt, lacking := tellSecond(b, held, fails, second, span.Power)
			x.lack += lacking
			if lacking > 0 && x.Dark < 0 {
				x.Dark = second
			}
			if x.Dark < 0 {
				x.Energy = slices.Clone(held)
				x.trace = append(x.trace, slices.Clone(held))
				x.Served += span.Power
				for i, n := range burnt {
					x.Burnt[i] += n
				}
			}
			second++
		}
	}
	return x
}

// tellSecond plays a second and changes what batteries hold; it returns what each generator gives, and what is lacking.
func tellSecond(b bank.Bank, held, fails []int, second, power int) (burnt []int, lacking int) {
	can := make([]int, len(b.Generators))
	burnt = make([]int, len(b.Generators))
	for i, y := range b.Generators {
		if runs := tellStart(y, fails[i]); runs >= 0 && second >= runs {
			can[i] = min(y.Power, y.Ramp*(second-runs+1))
		}
	}
	takes := func() bool {
		for i := range can {
			if burnt[i] < can[i] {
				burnt[i]++
				return true
			}
		}
		return false
	}
	gave := make([]int, len(held))
	gives := func() bool {
		for i, y := range b.Batteries {
			if held[i] > 0 && gave[i] < y.Power {
				held[i]--
				gave[i]++
				return true
			}
		}
		return false
	}
	for range power {
		if !takes() && !gives() {
			lacking++
		}
	}
	for i, y := range b.Batteries {
		for n := 0; n < y.Charge && held[i] < y.Full && takes(); n++ {
			held[i]++
		}
	}
	return burnt, lacking
}

// tellStart goes through the attempts of a generator, one by one.
func tellStart(g bank.Generator, fails int) int {
	now := 0
	for attempt := range g.Tries {
		now += g.Delay
		if attempt >= fails {
			return now
		}
		now += g.Pause
	}
	return -1
}

// allLists returns all lists of fails of a bank whose sum is at most most, in lexicographic order.
func allLists(b bank.Bank, most int) [][]int {
	lists := [][]int{{}}
	for _, g := range b.Generators {
		var longer [][]int
		for _, l := range lists {
			for n := range g.Tries + 1 {
				longer = append(longer, append(slices.Clone(l), n))
			}
		}
		lists = longer
	}
	return slices.DeleteFunc(lists, func(l []int) bool { return sum(l) > most })
}

// from returns a number from low to high.
func from(r *rand.Rand, low, high int) int { return low + r.IntN(high-low+1) }

// randomBank returns a valid bank with small numbers, so that much is at its limit.
func randomBank(r *rand.Rand) bank.Bank {
	var b bank.Bank
	for range from(r, 0, 4) {
		full := from(r, 0, 60)
		b.Batteries = append(b.Batteries, bank.Battery{Energy: from(r, 0, full), Full: full, Power: from(r, 0, 9), Charge: from(r, 0, 4)})
	}
	for range from(r, 0, 3) {
		b.Generators = append(b.Generators, bank.Generator{Power: from(r, 0, 12), Ramp: from(r, 0, 6), Delay: from(r, 0, 5), Pause: from(r, 0, 3), Tries: from(r, 1, 3)})
	}
	return b
}

// randomLoad returns a load of a few spans.
func randomLoad(r *rand.Rand) []bank.Span {
	var load []bank.Span
	for range from(r, 0, 5) {
		load = append(load, bank.Span{Seconds: from(r, 1, 12), Power: from(r, 0, 14)})
	}
	return load
}

// randomFails returns a list of fails of a bank.
func randomFails(r *rand.Rand, b bank.Bank) []int {
	fails := make([]int, len(b.Generators))
	for i, g := range b.Generators {
		fails[i] = from(r, 0, g.Tries) * r.IntN(2)
	}
	return fails
}
