package bank_test

import (
	"math/rand/v2"
	"slices"
	"testing"

	"switchgear/api"
	"switchgear/bank"
)

// notWorse checks that a second play is not worse than the first one: it is not dark earlier, and no battery has less.
func notWorse(t *testing.T, name string, dark, darkThen int, trace, traceThen [][]int) {
	t.Helper()
	if darkThen >= 0 && (dark < 0 || darkThen < dark) {
		t.Error(name, "is dark earlier:", darkThen, dark)
	}
	for i := range min(len(trace), len(traceThen)) {
		for k, n := range trace[i] {
			if traceThen[i][k] < n {
				t.Error(name, "has less in second", i, traceThen[i], trace[i])
			}
		}
	}
}

// better returns a bank with more Energy, a load that is smaller, and fewer fails.
func better(r *rand.Rand, b bank.Bank, load []bank.Span, fails []int) (bank.Bank, []bank.Span, []int) {
	b = copied(b)
	for i := range b.Batteries {
		x := &b.Batteries[i]
		x.Energy = from(r, x.Energy, x.Full)
	}
	load = slices.Clone(load)
	for i := range load {
		load[i].Power = from(r, 0, load[i].Power)
	}
	fails = slices.Clone(fails)
	for i := range fails {
		fails[i] = from(r, 0, fails[i])
	}
	return b, load, fails
}

// TestMonotone checks that more Energy, a smaller load or fewer fails are not worse, alone and together.
func TestMonotone(t *testing.T) {
	r := rand.New(rand.NewPCG(6, 4))
	later := 0
	for range 4000 {
		b, load := randomBank(r), randomLoad(r)
		fails := randomFails(r, b)
		x := ran(t, b, load, fails)
		trace, _ := bank.Trace(b, load, fails)
		fuller, smaller, fewer := better(r, b, load, fails)
		for _, c := range []struct {
			name  string
			bank  bank.Bank
			load  []bank.Span
			fails []int
		}{
			{"more Energy", fuller, load, fails}, {"a smaller load", b, smaller, fails}, {"fewer fails", b, load, fewer}, {"all of that", fuller, smaller, fewer},
		} {
			y := ran(t, c.bank, c.load, c.fails)
			traceThen, e := bank.Trace(c.bank, c.load, c.fails)
			if e != api.OK {
				t.Fatal(e)
			}
			notWorse(t, c.name, x.Dark, y.Dark, trace, traceThen)
			if x.Dark != y.Dark {
				later++
			}
		}
		if t.Failed() {
			t.Fatalf("%+v %v %v; %+v %v %v", b, load, fails, fuller, smaller, fewer)
		}
	}
	if later < 1000 {
		t.Error("met:", later)
	}
}

// TestMorePowerMayBeWorse shows why the chapter does not say that more Power or more Charge helps.
func TestMorePowerMayBeWorse(t *testing.T) {
	load := []bank.Span{{Seconds: 2, Power: 10}, {Seconds: 1, Power: 20}}
	b := cells(bank.Battery{Energy: 20, Full: 20, Power: 5}, bank.Battery{Energy: 30, Full: 30, Power: 15})
	if x := ran(t, b, load, nil); x.Dark != -1 {
		t.Error(x)
	}
	b.Batteries[0].Power = 10
	if x := ran(t, b, load, nil); x.Dark != 2 {
		t.Error(x)
	}
}

// TestSums checks that no energy is lost, and that none comes from nowhere.
func TestSums(t *testing.T) {
	r := rand.New(rand.NewPCG(6, 5))
	for range 4000 {
		b, load := randomBank(r), randomLoad(r)
		fails := randomFails(r, b)
		x := ran(t, b, load, fails)
		first := 0
		for i, y := range b.Batteries {
			first += y.Energy
			if x.Energy[i] < 0 || x.Energy[i] > y.Full {
				t.Error("battery", i, x.Energy)
			}
		}
		if sum(x.Energy)+x.Served != first+sum(x.Burnt) {
			t.Error("energy is lost", first, x)
		}
		if trace, _ := bank.Trace(b, load, fails); len(trace) > 0 && !slices.Equal(trace[len(trace)-1], x.Energy) {
			t.Error("the trace does not end with the result", trace, x)
		}
		if t.Failed() {
			t.Fatalf("%+v %v %v", b, load, fails)
		}
	}
}

// TestNothingIsWorse checks that no list of fails is worse than the one of Worst, and none has more lacking than Least.
func TestNothingIsWorse(t *testing.T) {
	r := rand.New(rand.NewPCG(6, 6))
	for range 2000 {
		b, load := randomBank(r), randomLoad(r)
		most := from(r, 0, 6)
		fails, worst, _ := bank.Worst(b, load, most)
		least, _ := bank.Least(b, load, most)
		if sum(fails) > most {
			t.Error("too many fails:", fails)
		}
		for _, l := range allLists(b, most) {
			if x := ran(t, b, load, l); later(worst, x) || x.Dark == worst.Dark && slices.Compare(l, fails) < 0 {
				t.Error(l, x, "is worse than", fails, worst)
			}
			if n, _ := bank.Lack(b, load, l); n > least {
				t.Error(l, n, "is more than", least)
			}
		}
		if t.Failed() {
			t.Fatalf("%+v %v %d", b, load, most)
		}
	}
}

// TestOneMore checks that one more battery that holds just Lack is enough, and one that holds less is not.
func TestOneMore(t *testing.T) {
	r := rand.New(rand.NewPCG(6, 7))
	lacking := 0
	for range 4000 {
		b, load := randomBank(r), randomLoad(r)
		fails := randomFails(r, b)
		n, _ := bank.Lack(b, load, fails)
		with := func(energy int) bank.Bank {
			c := copied(b)
			c.Batteries = append(c.Batteries, bank.Battery{Energy: energy, Full: energy, Power: bank.MaxPower})
			return c
		}
		if x := ran(t, with(n), load, fails); x.Dark != -1 || x.Energy[len(x.Energy)-1] != 0 {
			t.Error(n, "is not enough", x)
		}
		if x := ran(t, b, load, fails); (n == 0) != (x.Dark < 0) {
			t.Error(n, "is lacking", x)
		}
		if n > 0 {
			lacking++
			for _, less := range []int{n - 1, r.IntN(n)} {
				if x := ran(t, with(less), load, fails); x.Dark < 0 {
					t.Error(less, "is enough", x)
				}
			}
		}
		if t.Failed() {
			t.Fatalf("%+v %v %v", b, load, fails)
		}
	}
	if lacking < 1000 {
		t.Error("met:", lacking)
	}
}
