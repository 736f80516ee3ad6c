package bank_test

import (
	"math"
	"math/rand/v2"
	"slices"
	"testing"

	"switchgear/api"
	"switchgear/bank"
)

// TestOrderOfErrors has arguments with an error each; the errors that come later in the chapter's table must not show.
func TestOrderOfErrors(t *testing.T) {
	right, load := chapter()
	large := bank.Bank{Generators: slices.Repeat([]bank.Generator{{Tries: 5}}, 6)}
	many := bank.Bank{Batteries: slices.Repeat([]bank.Battery{{Energy: -1}}, 9), Generators: []bank.Generator{{}}}
	wrong := bank.Bank{Batteries: []bank.Battery{{Energy: -1}}}
	manySpans := make([]bank.Span, 65)
	wrongSpan := append(slices.Repeat(load, 6), bank.Span{})
	for i := range 6 {
		wrongSpan[i].Seconds = bank.MaxTime
	}
	long := wrongSpan[:6]
	for _, c := range []struct {
		bank  bank.Bank
		load  []bank.Span
		fails []int
		most  int
		run   api.Errno
		worst api.Errno
	}{
		{many, manySpans, []int{-1}, -1, api.ErrMany, api.ErrMany},
		{many, wrongSpan, []int{-1}, -1, api.ErrMany, api.ErrMany},
		{wrong, manySpans, []int{-1}, -1, api.ErrRange, api.ErrRange},
		{wrong, long, []int{-1}, -1, api.ErrRange, api.ErrRange},
		{right, manySpans, []int{-1}, -1, api.ErrMany, api.ErrMany},
		{right, wrongSpan, []int{-1}, -1, api.ErrRange, api.ErrRange},
		{right, long, []int{-1}, -1, api.ErrTime, api.ErrTime},
		{right, load, []int{-1}, -1, api.ErrArg, api.ErrArg},
		{right, load, []int{0}, 0, api.OK, api.OK},
		{large, long, nil, -1, api.ErrTime, api.ErrTime},
		{large, load[:1], nil, -1, api.ErrArg, api.ErrArg},
		{large, []bank.Span{{Seconds: 90}}, nil, -1, api.ErrArg, api.ErrArg},
		{large, []bank.Span{{Seconds: 90}}, make([]int, 6), 0, api.OK, api.ErrLarge},
	} {
		name := []any{c.bank, c.load, c.fails, c.most}
		same(t, c.run, runErrors(t, c.bank, c.load, c.fails), name)
		same(t, c.worst, searchErrors(t, c.bank, c.load, c.most), name)
	}
	for _, c := range []struct {
		bank        bank.Bank
		power, most int
		want        api.Errno
	}{
		{many, -1, -1, api.ErrMany},
		{wrong, -1, -1, api.ErrRange},
		{right, -1, -1, api.ErrRange},
		{large, -1, 0, api.ErrRange},
		{large, bank.MaxPower + 1, -1, api.ErrRange},
		{large, 1, -1, api.ErrArg},
		{large, 1, 0, api.ErrLarge},
		{right, 1, 0, api.OK},
	} {
		same(t, c.want, holdErrors(t, c.bank, c.power, c.most), c)
	}
}

// TestOddArguments calls everything with arguments that are mostly wrong: nothing may panic.
func TestOddArguments(t *testing.T) {
	r := rand.New(rand.NewPCG(6, 8))
	odd := []int{math.MinInt, math.MinInt + 1, -2, -1, 0, 1, 2, 3, 5, 6, 9, 64, 3600, 3601, bank.MaxPower, bank.MaxPower + 1, bank.MaxEnergy, math.MaxInt - 1, math.MaxInt}
	pick := func() int { return odd[r.IntN(len(odd))] }
	right := 0
	for range 20000 {
		b, load := randomBank(r), randomLoad(r)
		fails := randomFails(r, b)
		for i := range b.Batteries {
			x := &b.Batteries[i]
			for _, n := range []*int{&x.Energy, &x.Full, &x.Power, &x.Charge} {
				if r.IntN(40) == 0 {
					*n = pick()
				}
			}
		}
		for i := range b.Generators {
			x := &b.Generators[i]
			for _, n := range []*int{&x.Power, &x.Ramp, &x.Delay, &x.Pause, &x.Tries, &fails[i]} {
				if r.IntN(40) == 0 {
					*n = pick()
				}
			}
		}
		for i := range load {
			if r.IntN(10) == 0 {
				load[i] = bank.Span{Seconds: pick(), Power: pick()}
			}
		}
		if r.IntN(10) == 0 {
			fails = append(fails, pick())
		}
		most := pick()
		if r.IntN(50) == 0 {
			holdErrors(t, b, pick(), most)
		}
		errors := append(runErrors(t, b, load, fails), searchErrors(t, b, load, most)...)
		if errors[0] == api.OK {
			right++
		}
		for _, g := range b.Generators {
			if n, e := bank.Start(g, most); e != api.OK && n != 0 {
				t.Error(n, e)
			}
		}
		if t.Failed() {
			t.Fatalf("%+v %v %v %d", b, load, fails, most)
		}
	}
	if right < 1000 {
		t.Error("met:", right)
	}
}

// spoil changes all elements of a list, and what may stand behind it.
func spoil(list []int) {
	for i := range list {
		list[i] = -7
	}
	_ = append(list, -7)
}

// TestOwnMemory checks that results share no memory with arguments or with each other, and that no argument is changed.
func TestOwnMemory(t *testing.T) {
	b := bank.Bank{
		Batteries:  []bank.Battery{{Energy: 90, Full: 100, Power: 9, Charge: 3}, {Energy: 50, Full: 100, Power: 9, Charge: 3}},
		Generators: []bank.Generator{{Power: 9, Ramp: 3, Delay: 1, Pause: 1, Tries: 2}, {Power: 20, Ramp: 5, Delay: 2, Pause: 0, Tries: 3}},
	}
	load := []bank.Span{{Seconds: 3, Power: 12}, {Seconds: 9, Power: 18}, {Seconds: 4, Power: 1}}
	fails := []int{1, 2}
	kept, keptLoad := copied(b), slices.Clone(load)
	unchanged := func(name string) {
		t.Helper()
		if !slices.Equal(b.Batteries, kept.Batteries) || !slices.Equal(b.Generators, kept.Generators) || !slices.Equal(load, keptLoad) || !slices.Equal(fails, []int{1, 2}) {
			t.Fatal(name, "an argument was changed")
		}
	}
	x := ran(t, b, load, fails)
	energy := slices.Clone(x.Energy)
	spoil(x.Burnt)
	if !slices.Equal(x.Energy, energy) {
		t.Error("Energy and Burnt share memory")
	}
	spoil(x.Energy)
	unchanged("Run")
	l, _ := bank.Trace(b, load, fails)
	rows := make([][]int, len(l))
	for i := range l {
		rows[i] = slices.Clone(l[i])
	}
	for i := range l {
		spoil(l[i])
		if !sameRows(l[i+1:], rows[i+1:]) {
			t.Fatal("rows share memory", i)
		}
	}
	unchanged("Trace")
	worst, x, _ := bank.Worst(b, load, 3)
	spoil(worst)
	spoil(x.Energy)
	spoil(x.Burnt)
	unchanged("Worst")
	again, y, _ := bank.Worst(b, load, 3)
	if slices.Contains(again, -7) || slices.Contains(y.Energy, -7) || slices.Contains(y.Burnt, -7) {
		t.Error("results are kept", again, y)
	}
	for _, e := range append(runErrors(t, b, load, fails), searchErrors(t, b, load, 3)...) {
		if e != api.OK {
			t.Error(e)
		}
	}
	holdErrors(t, b, 9, 2)
	unchanged("Lack, Least and Hold")
}

// TestAgain checks that the same arguments have the same results.
func TestAgain(t *testing.T) {
	r := rand.New(rand.NewPCG(6, 9))
	for range 200 {
		b, load := randomBank(r), randomLoad(r)
		fails, x, _ := bank.Worst(b, load, 3)
		for range 3 {
			if again, y, _ := bank.Worst(copied(b), slices.Clone(load), 3); !slices.Equal(again, fails) || !sameResult(x, y) {
				t.Fatal(fails, again, x, y)
			}
		}
	}
}
