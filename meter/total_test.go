package meter_test

import (
	"math"
	"math/rand/v2"
	"slices"
	"testing"

	"switchgear/api"
	"switchgear/meter"
)

// asked has arguments for all functions.
type asked struct {
	key      uint64
	readings []meter.Reading
	chain    []meter.Link
	c        meter.Case
	set      []int
	tariff   meter.Tariff
	uses     []meter.Use
}

// rightly returns arguments with which no function has an error.
func rightly() asked {
	a := asked{key: 99, readings: readings(70), c: chapter2(), set: []int{1, 3}}
	a.chain, _ = meter.Sign(a.key, a.readings)
	x, u := chapter3()
	a.tariff, a.uses = x, []meter.Use{u, {Values: []int{1, 2}, Out: 40}, {}}
	return a
}

// copied returns equal arguments that share no memory with a.
func (a asked) copied() asked {
	a.readings, a.chain, a.set = slices.Clone(a.readings), slices.Clone(a.chain), slices.Clone(a.set)
	a.c, a.tariff, a.uses = copied(a.c), copiedTariff(a.tariff), copiedUses(a.uses)
	return a
}

// same reports whether arguments are equal.
func (a asked) same(b asked) bool {
	sameUse := func(x, y meter.Use) bool { return slices.Equal(x.Values, y.Values) && x.Out == y.Out }
	sameTariff := func(x, y meter.Tariff) bool {
		return slices.Equal(x.Price, y.Price) && x.Base == y.Base && slices.Equal(x.Tiers, y.Tiers) && x.Credit == y.Credit
	}
	return a.key == b.key && slices.Equal(a.readings, b.readings) && slices.Equal(a.chain, b.chain) && sameCase(a.c, b.c) && slices.Equal(a.set, b.set) && sameTariff(a.tariff, b.tariff) && slices.EqualFunc(a.uses, b.uses, sameUse)
}

// first returns the first use, or none.
func (a asked) first() meter.Use {
	if len(a.uses) == 0 {
		return meter.Use{}
	}
	return a.uses[0]
}

// answer has what a function has answered.
type answer struct {
	ok     bool
	number int
	list   []int
	lists  [][]int
	chain  []meter.Link
	table  [][2]int
	bills  []meter.Bill
	bill   meter.Bill
	e      api.Errno
}

// zero reports whether all but the error is zero.
func (x answer) zero() bool { return x.same(answer{e: x.e}) }

// same reports whether two answers are equal.
func (x answer) same(y answer) bool {
	return x.ok == y.ok && x.number == y.number && slices.Equal(x.list, y.list) && sameLists(x.lists, y.lists) && slices.Equal(x.chain, y.chain) && slices.Equal(x.table, y.table) && slices.Equal(x.bills, y.bills) && x.bill == y.bill && x.e == y.e
}

// calls has all functions that may have errors.
func calls() map[string]func(a asked) answer {
	return map[string]func(a asked) answer{
		"Sign": func(a asked) answer {
			l, e := meter.Sign(a.key, a.readings)
			return answer{chain: l, e: e}
		},
		"Verify": func(a asked) answer {
			n, e := meter.Verify(a.key, a.chain)
			return answer{number: n, e: e}
		},
		"Table": func(a asked) answer {
			l, e := meter.Table(a.chain)
			return answer{table: l, e: e}
		},
		"Check": func(a asked) answer { return answer{e: meter.Check(a.c)} },
		"Broken": func(a asked) answer {
			l, e := meter.Broken(a.c)
			return answer{list: l, e: e}
		},
		"Explains": func(a asked) answer {
			ok, e := meter.Explains(a.c, a.set)
			return answer{ok: ok, e: e}
		},
		"Repair": func(a asked) answer {
			l, e := meter.Repair(a.c, a.set)
			return answer{list: l, e: e}
		},
		"Least": func(a asked) answer {
			l, e := meter.Least(a.c)
			return answer{lists: l, e: e}
		},
		"Make": func(a asked) answer {
			b, e := meter.Make(a.tariff, a.first())
			return answer{bill: b, e: e}
		},
		"Total": func(a asked) answer {
			l, sum, e := meter.Total(a.tariff, a.uses)
			return answer{bills: l, bill: sum, e: e}
		},
	}
}

// fault spoils arguments.
type fault struct {
	name  string
	spoil func(a *asked)
	want  api.Errno
}

// faults has, for each function, what may be wrong, in the order of the chapter's table. What is wrong with readings and links is wrong with the second one.
func faults() map[string][]fault {
	readings := []fault{
		{"many", func(a *asked) { a.readings = append(a.readings, make([]meter.Reading, 4096)...) }, api.ErrMany},
		{"a number", func(a *asked) { a.readings[1].Hour = -1 }, api.ErrRange},
		{"a meter twice", func(a *asked) { a.readings[1].Meter, a.readings[1].Hour = 0, 0 }, api.ErrMeter},
	}
	links := []fault{
		{"many", func(a *asked) { a.chain = append(a.chain, make([]meter.Link, 4096)...) }, api.ErrMany},
		{"a number", func(a *asked) { a.chain[1].Reading.Value = -1 }, api.ErrRange},
		{"a meter twice", func(a *asked) { a.chain[1].Reading.Meter, a.chain[1].Reading.Hour = 0, 0 }, api.ErrMeter},
	}
	nodes := []fault{
		{"many nodes", func(a *asked) { a.c.Nodes = append(a.c.Nodes, make([]meter.Node, 11)...) }, api.ErrMany},
		{"values", func(a *asked) { a.c.Values = a.c.Values[:3] }, api.ErrArg},
		{"a node", func(a *asked) { a.c.Nodes[3].Up = 3 }, api.ErrRange},
		{"a value", func(a *asked) { a.c.Values[2] = most + 1 }, api.ErrRange},
	}
	set := append(slices.Clone(nodes), fault{"the set", func(a *asked) { a.set = []int{3, 1} }, api.ErrArg})
	never := fault{"no set", func(a *asked) { a.c.Nodes[0].Low, a.c.Nodes[0].High, a.c.Nodes[1].Low = most, most, 1 }, api.ErrNone}
	uses := []fault{
		{"prices", func(a *asked) { a.tariff.Price = a.tariff.Price[1:] }, api.ErrArg},
		{"many tiers", func(a *asked) { a.tariff.Tiers = tiers(9) }, api.ErrMany},
		{"the tariff", func(a *asked) { a.tariff.Base = -1 }, api.ErrRange},
		{"the order of the tiers", func(a *asked) { slices.Reverse(a.tariff.Tiers) }, api.ErrRange},
		{"many hours", func(a *asked) { a.uses[0].Values = make([]int, 1001) }, api.ErrMany},
		{"the use", func(a *asked) { a.uses[0].Out = -1 }, api.ErrRange},
	}
	return map[string][]fault{
		"Sign":     readings,
		"Verify":   append(slices.Clone(links), fault{"a sign", func(a *asked) { a.chain[1].Sign++ }, api.ErrFalse}),
		"Table":    links,
		"Check":    nodes,
		"Broken":   nodes,
		"Explains": set,
		"Repair":   append(slices.Clone(set), never),
		"Least":    append(slices.Clone(nodes), never),
		"Make":     uses,
		"Total": slices.Concat([]fault{
			{"many uses", func(a *asked) { a.uses = append(a.uses, make([]meter.Use, 64)...) }, api.ErrMany},
		}, uses, []fault{
			{"many hours of the next use", func(a *asked) { a.uses[1].Values = make([]int, 1001) }, api.ErrMany},
			{"the last use", func(a *asked) { a.uses[2].Out = -1 }, api.ErrRange},
		}),
	}
}

// TestOrderOfErrors has arguments with some errors: the one that the chapter's table names first must show, and all other results are zero, but for where Verify found it.
func TestOrderOfErrors(t *testing.T) {
	for name, list := range faults() {
		call := calls()[name]
		try := func(l ...fault) {
			t.Helper()
			a := rightly()
			// What is named last is spoiled first, so that what is named first stays.
			for _, f := range slices.Backward(l) {
				f.spoil(&a)
			}
			x := call(a)
			if name == "Verify" && x.e != api.ErrMany {
				x.number--
			}
			if x.e != l[0].want || !x.zero() {
				t.Errorf("%s, %s and %d more: %+v, not %d", name, l[0].name, len(l)-1, x, l[0].want)
			}
		}
		if x := call(rightly()); x.e != api.OK {
			t.Error(name, x)
		}
		for i, f := range list {
			try(f)
			try(list[i:]...)
			for _, g := range list[i+1:] {
				try(f, g)
			}
		}
	}
}

// randomly returns valid arguments with which functions may have errors of their own.
func randomly(r *rand.Rand) asked {
	a := asked{key: r.Uint64(), readings: readings(r.IntN(80))}
	r.Shuffle(len(a.readings), func(i, k int) { a.readings[i], a.readings[k] = a.readings[k], a.readings[i] })
	a.chain, _ = meter.Sign(a.key, a.readings)
	if r.IntN(3) == 0 {
		a.chain = randomChain(r, a.key)
	}
	a.c, a.set, _ = randomCase(r, 8)
	a.tariff = randomTariff(r)
	for range r.IntN(6) {
		a.uses = append(a.uses, randomUse(r, 30))
	}
	return a
}

// oddly returns arguments of which some are wrong.
func oddly(r *rand.Rand) asked {
	odd := []int{math.MinInt, math.MinInt + 1, -most, -1 << 32, -2, -1, 0, 1, 2, 8, 13, 14, 63, 64, 100, 101, 1000, 1001, 50000, 50001, 100000, 100001, most - 1, most, most + 1, 1 << 32, math.MaxInt - 1, math.MaxInt}
	a := randomly(r).copied()
	spoil := func(l ...*int) {
		for _, n := range l {
			if r.IntN(60) == 0 {
				*n = odd[r.IntN(len(odd))]
			}
		}
	}
	for i := range a.readings {
		spoil(&a.readings[i].Meter, &a.readings[i].Hour)
	}
	for i := range a.chain {
		spoil(&a.chain[i].Reading.Value)
	}
	for i := range a.c.Nodes {
		spoil(&a.c.Nodes[i].Up, &a.c.Nodes[i].Low, &a.c.Nodes[i].High)
	}
	for i := range a.tariff.Tiers {
		spoil(&a.tariff.Tiers[i].Minutes, &a.tariff.Tiers[i].Percent)
	}
	spoil(&a.tariff.Base, &a.tariff.Credit)
	for _, l := range [][]int{a.c.Values, a.set, a.tariff.Price} {
		for i := range l {
			spoil(&l[i])
		}
	}
	for i := range a.uses {
		spoil(&a.uses[i].Out)
		for k := range a.uses[i].Values {
			spoil(&a.uses[i].Values[k])
		}
	}
	switch r.IntN(40) {
	case 0:
		a.readings, a.chain = readings(5000), make([]meter.Link, 5000)
	case 1:
		a.c.Nodes = nil
	case 2:
		a.c.Values = append(a.c.Values, 0)
	case 3:
		a.c = row(100, 0, 1)
	case 4:
		a.set = append(a.set, 0)
	case 5:
		a.tariff.Price = a.tariff.Price[1:]
	case 6:
		a.tariff.Tiers = append(a.tariff.Tiers, tiers(9)...)
	case 7:
		a.uses = append(a.uses, make([]meter.Use, 64)...)
	case 8:
		a.tariff = meter.Tariff{}
	}
	return a
}

// TestOddArguments calls everything with arguments that are mostly wrong: nothing may panic.
func TestOddArguments(t *testing.T) {
	r := rand.New(rand.NewPCG(11, 19))
	right, wrong := map[string]int{}, map[string]int{}
	for range 10000 {
		a := oddly(r)
		meter.Mix(a.key, uint64(len(a.chain)))
		for name, call := range calls() {
			x := call(a)
			if x.e == api.OK {
				right[name]++
				continue
			}
			wrong[name]++
			if name == "Verify" {
				if x.number < 0 || x.number > len(a.chain) || x.number > 0 && x.e == api.ErrMany {
					t.Fatalf("%s: %+v: %+v", name, a, x)
				}
				x.number = 0
			}
			if !x.zero() {
				t.Fatalf("%s: %+v: %+v", name, a, x)
			}
		}
	}
	for name := range calls() {
		if min(right[name], wrong[name]) < 1000 {
			t.Error("met:", name, right[name], wrong[name])
		}
	}
}

// TestNothing has the zero values as arguments, and empty lists.
func TestNothing(t *testing.T) {
	empty := asked{
		readings: []meter.Reading{}, chain: []meter.Link{}, set: []int{}, uses: []meter.Use{},
		c:      meter.Case{Nodes: []meter.Node{}, Values: []int{}},
		tariff: meter.Tariff{Price: []int{}, Tiers: []meter.Tier{}},
	}
	want := map[string]api.Errno{"Check": api.ErrMany, "Broken": api.ErrMany, "Explains": api.ErrMany, "Repair": api.ErrMany, "Least": api.ErrMany, "Make": api.ErrArg}
	for name, call := range calls() {
		for _, a := range []asked{{}, empty} {
			if x := call(a); x.e != want[name] || !x.zero() {
				t.Error(name, x)
			}
		}
	}
}

// spoilAnswer changes all elements of the lists of an answer, and what may stand behind them.
func spoilAnswer(x answer) {
	for _, l := range append(slices.Clone(x.lists), x.list) {
		for i := range l[:cap(l)] {
			l[:cap(l)][i] = -7
		}
	}
	clear(x.lists)
	clear(x.chain[:cap(x.chain)])
	clear(x.table[:cap(x.table)])
	clear(x.bills[:cap(x.bills)])
}

// TestOwnMemory checks that results share no memory with arguments, and that no argument is changed.
func TestOwnMemory(t *testing.T) {
	r := rand.New(rand.NewPCG(11, 20))
	for range 1000 {
		a := randomly(r)
		kept := a.copied()
		for name, call := range calls() {
			x, again := call(a), call(a)
			spoilAnswer(x)
			if !a.same(kept) {
				t.Fatal(name, "an argument was changed")
			}
			if !call(a).same(again) {
				t.Fatal(name, "a result is kept")
			}
		}
	}
}

// TestListsOfTheirOwn checks that the lists of a result share no memory with each other: each one is spoiled, and what may stand behind it.
func TestListsOfTheirOwn(t *testing.T) {
	r := rand.New(rand.NewPCG(11, 21))
	met := 0
	for range 1000 {
		c, _, _ := randomCase(r, 8)
		lists, _ := meter.Least(c)
		for i, l := range lists {
			kept := slices.Clone(lists)
			for k := range kept {
				kept[k] = slices.Clone(kept[k])
			}
			for k := range l[:cap(l)] {
				l[:cap(l)][k] = -7
			}
			for k, other := range lists {
				if k != i && !slices.Equal(other, kept[k]) {
					t.Fatal("lists share memory", i, k)
				}
			}
		}
		met += len(lists)
	}
	if met < 1000 {
		t.Error("met:", met)
	}
}

// TestAgain checks that equal arguments have equal results, and that nil and empty are the same.
func TestAgain(t *testing.T) {
	r := rand.New(rand.NewPCG(11, 22))
	for range 1000 {
		a := randomly(r)
		b := a.copied()
		b.readings, b.chain, b.set, b.uses = append([]meter.Reading{}, a.readings...), append([]meter.Link{}, a.chain...), append([]int{}, a.set...), append([]meter.Use{}, b.uses...)
		b.tariff.Tiers = append([]meter.Tier{}, a.tariff.Tiers...)
		for i := range b.uses {
			b.uses[i].Values = append([]int{}, a.uses[i].Values...)
			if len(a.uses[i].Values) == 0 {
				a.uses[i].Values = nil
			}
		}
		for name, call := range calls() {
			if x, y := call(a), call(b); !x.same(y) {
				t.Fatalf("%s: %+v: %+v, then %+v", name, a, x, y)
			}
		}
	}
}
