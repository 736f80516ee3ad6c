package bank_test

import (
	"math"
	"math/rand/v2"
	"slices"
	"testing"

	"switchgear/api"
	"switchgear/bank"
)

// worstIs checks what Worst returns, and that the result is that of Run.
func worstIs(t *testing.T, name string, b bank.Bank, load []bank.Span, most int, want []int, dark int) {
	t.Helper()
	fails, x, e := bank.Worst(b, load, most)
	if e != api.OK || !slices.Equal(fails, want) || x.Dark != dark || !sameResult(x, ran(t, b, load, want)) {
		t.Errorf("%s: with most %d: %v %+v %d, not %v, dark %d", name, most, fails, x, e, want, dark)
	}
}

func TestWorstOfChapter(t *testing.T) {
	b, load := chapter()
	worstIs(t, "chapter", b, load, 0, []int{0}, -1)
	for _, most := range []int{1, 2, 3, math.MaxInt} {
		worstIs(t, "chapter", b, load, most, []int{1}, 10)
	}
}

func TestWorstOfSeveral(t *testing.T) {
	second := func(power int) []bank.Span { return []bank.Span{{Seconds: 9, Power: power}} }
	slow := func(power, delay int) bank.Generator {
		return bank.Generator{Power: power, Ramp: power, Delay: delay, Pause: 1, Tries: 2}
	}
	engines := func(l ...bank.Generator) bank.Bank {
		return bank.Bank{Batteries: []bank.Battery{{Energy: 30, Full: 30, Power: 20}}, Generators: l}
	}
	const all = math.MaxInt
	for _, c := range []struct {
		name string
		bank bank.Bank
		load []bank.Span
		most int
		want []int
		dark int
	}{
		{"either of two", engines(steady(10), steady(10)), second(20), 1, []int{0, 1}, 3},
		{"both of two", engines(steady(10), steady(10)), second(20), 2, []int{1, 1}, 1},
		{"both of two", engines(steady(10), steady(10)), second(20), all, []int{1, 1}, 1},
		{"no fail is allowed", engines(steady(10), steady(10)), second(20), 0, []int{0, 0}, -1},
		{"the greater one", engines(steady(15), steady(5)), second(20), 1, []int{1, 0}, 2},
		{"the greater one, which is the last one", engines(steady(5), steady(15)), second(20), 1, []int{0, 1}, 2},
		{"the least fails of several", engines(slow(20, 0), slow(20, 1)), second(20), all, []int{2, 1}, 1},
		{"one fail is as bad as all", bank.Bank{Generators: []bank.Generator{slow(20, 0), slow(20, 0)}}, second(40), all, []int{0, 1}, 0},
		{"dark in second 0 without fails", bank.Bank{Generators: []bank.Generator{slow(20, 1), slow(20, 1)}}, second(40), all, []int{0, 0}, 0},
		{"dark later without fails", engines(slow(10, 9)), second(20), all, []int{0}, 1},
		{"none is dark", engines(steady(5), steady(5)), second(0), all, []int{0, 0}, -1},
		{"no generator", engines(), second(20), 3, []int{}, 1},
		{"no generator, not dark", engines(), second(3), 0, []int{}, -1},
		{"no span", engines(slow(1, 1), slow(1, 1)), nil, all, []int{0, 0}, -1},
		{"the last seconds", engines(bank.Generator{Power: 20, Ramp: 20, Delay: 1, Tries: 2}), []bank.Span{{Seconds: 2, Power: 15}, {Seconds: 1, Power: 20}}, all, []int{2}, 2},
	} {
		worstIs(t, c.name, c.bank, c.load, c.most, c.want, c.dark)
	}
}

// later reports whether it becomes dark later in x than in y.
func later(x, y bank.Result) bool {
	return y.Dark >= 0 && (x.Dark < 0 || x.Dark > y.Dark)
}

// TestWorstTold compares with the plays of all lists.
func TestWorstTold(t *testing.T) {
	r := rand.New(rand.NewPCG(6, 2))
	moved, less := 0, 0
	for range 4000 {
		b, load := randomBank(r), randomLoad(r)
		most := from(r, 0, 8)
		lists := allLists(b, most)
		first, least := lists[0], ran(t, b, load, lists[0])
		greatest := 0
		for _, l := range lists {
			if x := ran(t, b, load, l); later(least, x) {
				first, least = l, x
			}
			n, e := bank.Lack(b, load, l)
			if e != api.OK {
				t.Fatal(e)
			}
			greatest = max(greatest, n)
		}
		worstIs(t, "random", b, load, most, first, least.Dark)
		if n, e := bank.Least(b, load, most); n != greatest || e != api.OK {
			t.Errorf("Least %d %d, not %d", n, e, greatest)
		}
		if t.Failed() {
			t.Fatalf("%+v %v %d", b, load, most)
		}
		if sum(first) > 0 {
			moved++
		}
		if sum(first) > 0 && sum(first) < most {
			less++
		}
	}
	if min(moved, less) < 500 {
		t.Error("met:", moved, less)
	}
}

// holds checks what Hold returns.
func holds(t *testing.T, name string, b bank.Bank, power, most, want int) {
	t.Helper()
	if n, e := bank.Hold(b, power, most); n != want || e != api.OK {
		t.Errorf("%s: power %d, most %d: %d %d, not %d", name, power, most, n, e, want)
	}
}

func TestHold(t *testing.T) {
	b, _ := chapter()
	holds(t, "chapter", b, 100, 0, bank.MaxHold)
	for _, most := range []int{1, 2, math.MaxInt} {
		holds(t, "chapter", b, 100, most, 10)
	}
	holds(t, "power 0", b, 0, 5, bank.MaxHold)
	holds(t, "nothing, power 0", bank.Bank{}, 0, 0, bank.MaxHold)
	holds(t, "nothing", bank.Bank{}, 1, 0, 0)
	holds(t, "nothing", bank.Bank{}, bank.MaxPower, 0, 0)
	great := bank.Battery{Energy: bank.MaxEnergy, Full: bank.MaxEnergy, Power: bank.MaxPower}
	holds(t, "great", cells(great), bank.MaxPower, 0, bank.MaxHold)
	for _, seconds := range []int{0, 1, 2, 3599, 3600, 3601, 3999, 4000} {
		battery := bank.Battery{Energy: 100*seconds + 99, Full: bank.MaxEnergy, Power: 100}
		holds(t, "battery", cells(battery), 100, 0, seconds)
	}
	holds(t, "more than asked for", cells(great), 100, 0, bank.MaxHold)
	holds(t, "too much", b, 101, 0, 0)
}

// TestHoldTold compares with all lists that may fail.
func TestHoldTold(t *testing.T) {
	r := rand.New(rand.NewPCG(6, 3))
	met := map[bool]int{}
	for range 200 {
		b := randomBank(r)
		power, most := from(r, 0, 14), from(r, 0, 8)
		least := bank.MaxHold
		for _, l := range allLists(b, most) {
			x := ran(t, b, []bank.Span{{Seconds: 1000, Power: power}, {Seconds: 3000, Power: power}}, l)
			if x.Dark >= 0 {
				least = min(least, x.Dark)
			}
		}
		holds(t, "random", b, power, most, least)
		met[least > 0 && least < bank.MaxHold]++
	}
	if min(met[true], met[false]) < 50 {
		t.Error("met:", met)
	}
}

// searchErrors returns the errors of Worst and Least. With an error every other result must be zero.
func searchErrors(t *testing.T, b bank.Bank, load []bank.Span, most int) []api.Errno {
	t.Helper()
	l, x, worst := bank.Worst(b, load, most)
	n, least := bank.Least(b, load, most)
	if worst != api.OK && (len(l) > 0 || !sameResult(x, bank.Result{})) || least != api.OK && n != 0 {
		t.Errorf("results with errors: %v %+v %d, %d %d", l, x, worst, n, least)
	}
	return []api.Errno{worst, least}
}

// holdErrors returns the error of Hold. With an error the other result must be zero.
func holdErrors(t *testing.T, b bank.Bank, power, most int) []api.Errno {
	t.Helper()
	n, e := bank.Hold(b, power, most)
	if e != api.OK && n != 0 {
		t.Errorf("a result with an error: %d %d", n, e)
	}
	return []api.Errno{e}
}

func TestMost(t *testing.T) {
	b, load := chapter()
	for _, c := range []struct {
		most int
		want api.Errno
	}{{0, api.OK}, {1, api.OK}, {math.MaxInt, api.OK}, {-1, api.ErrArg}, {math.MinInt, api.ErrArg}} {
		same(t, c.want, searchErrors(t, b, load, c.most), c.most)
		same(t, c.want, holdErrors(t, b, 100, c.most), c.most)
		same(t, c.want, searchErrors(t, bank.Bank{}, nil, c.most), c.most)
		same(t, c.want, holdErrors(t, bank.Bank{}, 100, c.most), c.most)
	}
}

// tries returns a bank whose generators have so many attempts each.
func tries(numbers ...int) bank.Bank {
	var b bank.Bank
	for _, n := range numbers {
		b.Generators = append(b.Generators, bank.Generator{Power: 100, Ramp: 100, Tries: n})
	}
	return b
}

func TestCases(t *testing.T) {
	load := func(seconds ...int) []bank.Span {
		var l []bank.Span
		for _, n := range seconds {
			l = append(l, bank.Span{Seconds: n, Power: 1})
		}
		return l
	}
	for _, c := range []struct {
		name string
		bank bank.Bank
		load []bank.Span
		want api.Errno
	}{
		{"4096 lists, 1024 seconds", tries(3, 3, 3, 3, 3, 3), load(1000, 24), api.OK},
		{"4096 lists, 1025 seconds", tries(3, 3, 3, 3, 3, 3), load(1000, 25), api.ErrLarge},
		{"1280 lists, 3276 seconds", tries(4, 3, 3, 3, 3), load(3276), api.OK},
		{"1280 lists, 3277 seconds", tries(4, 3, 3, 3, 3), load(3277), api.ErrLarge},
		{"46656 lists, 89 seconds", tries(5, 5, 5, 5, 5, 5), load(89), api.OK},
		{"46656 lists, 90 seconds", tries(5, 5, 5, 5, 5, 5), load(90), api.ErrLarge},
		{"46656 lists, no span", tries(5, 5, 5, 5, 5, 5), nil, api.OK},
		{"46656 lists, 20000 seconds", tries(5, 5, 5, 5, 5, 5), load(3600, 3600, 3600, 3600, 3600, 2000), api.ErrLarge},
		{"one list, 20000 seconds", tries(), load(3600, 3600, 3600, 3600, 3600, 2000), api.OK},
	} {
		same(t, c.want, searchErrors(t, c.bank, c.load, 0), c.name)
		if c.want != api.OK {
			same(t, c.want, searchErrors(t, c.bank, c.load, math.MaxInt), c.name)
		}
	}
	worstIs(t, "all of 4096 lists", tries(3, 3, 3, 3, 3, 3), load(1024), math.MaxInt, []int{3, 3, 3, 3, 3, 3}, 0)
	if n, e := bank.Least(tries(3, 3, 3, 3, 3, 3), load(1024), math.MaxInt); n != 1024 || e != api.OK {
		t.Error("all of 4096 lists:", n, e)
	}
	// Hold has 4000 seconds.
	for _, most := range []int{0, math.MaxInt} {
		same(t, api.OK, holdErrors(t, tries(3, 3, 3, 3, 3), 1, most), "1024 lists")
		same(t, api.ErrLarge, holdErrors(t, tries(5, 5, 5, 4), 1, most), "1080 lists")
		same(t, api.ErrLarge, holdErrors(t, tries(5, 5, 5, 5, 5, 5), 0, most), "46656 lists")
	}
}
