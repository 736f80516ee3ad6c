package market_test

import (
	"math"
	"math/rand/v2"
	"slices"
	"testing"

	"switchgear/api"
	"switchgear/market"
)

// asked has arguments for all functions.
type asked struct {
	d       market.Day
	p       market.Plan
	proof   [][]int
	o       market.Offer
	pattern []int
}

// rightly returns arguments with which no function has an error.
func rightly() asked {
	d := market.Day{
		Hours: []market.Hour{{Buy: 5, Sell: 2, Load: 3}, {Buy: 9, Sell: 9, Sun: 4, Load: 2, Carbon: 3, Water: 2}, {Buy: 7, Load: 4}},
		Store: market.Store{Energy: 2, Full: 3, Power: 2, End: 1},
		Jobs:  []market.Job{{From: 0, To: 3, Hours: 2, Power: 1}, {From: 1, To: 3, Hours: 1, Power: 2}},
		Most:  8,
		Peak:  1,
	}
	p, proof, _ := market.Best(d)
	return asked{d: d, p: p, proof: proof, o: market.Offer{From: 0, To: 3, Power: 1, Hours: 1, Calls: 2, Pause: 1}, pattern: []int{0, 2}}
}

// copied returns equal arguments that share no memory with a.
func (a asked) copied() asked {
	return asked{d: copied(a.d), p: copiedPlan(a.p), proof: copiedLists(a.proof), o: a.o, pattern: slices.Clone(a.pattern)}
}

// same reports whether arguments are equal.
func (a asked) same(b asked) bool {
	return sameDay(a.d, b.d) && samePlan(a.p, b.p) && sameLists(a.proof, b.proof) && a.o == b.o && slices.Equal(a.pattern, b.pattern)
}

// answer has what a function has answered.
type answer struct {
	ok     bool
	number int
	list   []int
	lists  [][]int
	plan   market.Plan
	rows   []market.Row
	sums   market.Row
	e      api.Errno
}

// zero reports whether all but the error is zero.
func (x answer) zero() bool {
	return !x.ok && x.number == 0 && len(x.list) == 0 && len(x.lists) == 0 && samePlan(x.plan, market.Plan{}) && len(x.rows) == 0 && x.sums == (market.Row{})
}

// same reports whether two answers are equal.
func (x answer) same(y answer) bool {
	return x.ok == y.ok && x.number == y.number && slices.Equal(x.list, y.list) && sameLists(x.lists, y.lists) && samePlan(x.plan, y.plan) && slices.Equal(x.rows, y.rows) && x.sums == y.sums && x.e == y.e
}

// calls has all functions.
func calls() map[string]func(a asked) answer {
	return map[string]func(a asked) answer{
		"Check": func(a asked) answer { return answer{e: market.Check(a.d)} },
		"Starts": func(a asked) answer {
			l, e := market.Starts(a.d)
			return answer{lists: l, e: e}
		},
		"Cost": func(a asked) answer {
			n, e := market.Cost(a.d, a.p)
			return answer{number: n, e: e}
		},
		"Best": func(a asked) answer {
			p, proof, e := market.Best(a.d)
			return answer{plan: p, lists: proof, e: e}
		},
		"Verify": func(a asked) answer { return answer{e: market.Verify(a.d, a.p, a.proof)} },
		"Patterns": func(a asked) answer {
			l, e := market.Patterns(a.d, a.o)
			return answer{lists: l, e: e}
		},
		"Answer": func(a asked) answer {
			l, ok, e := market.Answer(a.d, a.p, a.o, a.pattern)
			return answer{list: l, ok: ok, e: e}
		},
		"Deliver": func(a asked) answer {
			ok, l, e := market.Deliver(a.d, a.p, a.o)
			return answer{ok: ok, list: l, e: e}
		},
		"Ledger": func(a asked) answer {
			rows, sums, e := market.Ledger(a.d, a.p)
			return answer{rows: rows, sums: sums, e: e}
		},
	}
}

// fault spoils arguments.
type fault struct {
	name  string
	spoil func(a *asked)
	want  api.Errno
}

// faults has, for each function, what may be wrong, in the order of the chapter's table.
func faults() map[string][]fault {
	day := []fault{
		{"many hours", func(a *asked) { a.d.Hours = make([]market.Hour, 25) }, api.ErrMany},
		{"many jobs", func(a *asked) { a.d.Jobs = make([]market.Job, 3) }, api.ErrMany},
		{"an hour", func(a *asked) { a.d.Hours[len(a.d.Hours)-1].Sell = 8 }, api.ErrRange},
		{"the store", func(a *asked) { a.d.Store.End = 4 }, api.ErrRange},
		{"a job", func(a *asked) { a.d.Jobs[1].Power = 21 }, api.ErrRange},
		{"Most", func(a *asked) { a.d.Most = 41 }, api.ErrRange},
		{"Peak", func(a *asked) { a.d.Peak = -1 }, api.ErrRange},
		{"many lists of starts", func(a *asked) {
			a.d.Jobs = []market.Job{{From: 0, To: 3, Hours: 1}, {From: 0, To: 3, Hours: 1}}
		}, api.ErrLarge},
	}
	plan := []fault{
		{"the starts", func(a *asked) { a.p.Starts = []int{1, 0} }, api.ErrArg},
		{"the charges", func(a *asked) { a.p.Charge = a.p.Charge[:2] }, api.ErrArg},
		{"not possible", func(a *asked) { a.p.Charge[0] = 3 }, api.ErrPlan},
	}
	offer := []fault{
		{"the offer", func(a *asked) { a.o.Power = 0 }, api.ErrOffer},
		{"the calls", func(a *asked) { a.o.Hours = 0 }, api.ErrOffer},
	}
	answer := slices.Concat(day, offer, plan)
	return map[string][]fault{
		"Check":  day,
		"Starts": day,
		"Cost":   slices.Concat(day, plan),
		"Ledger": slices.Concat(day, plan),
		"Best": slices.Concat(day, []fault{
			{"no plan", func(a *asked) { a.d.Most = 0 }, api.ErrNone},
		}),
		"Verify": slices.Concat(day, plan, []fault{
			{"the number of tables", func(a *asked) { a.proof = a.proof[1:] }, api.ErrArg},
			{"the number of numbers", func(a *asked) { a.proof[1] = a.proof[1][1:] }, api.ErrArg},
			{"the cost", func(a *asked) { a.p.Cost++ }, api.ErrFalse},
			{"a number", func(a *asked) { a.proof[0][0] = never + 1 }, api.ErrFalse},
		}),
		"Patterns": slices.Concat(day, offer),
		"Deliver":  answer,
		"Answer": slices.Concat(answer, []fault{
			{"the pattern", func(a *asked) { a.pattern = []int{2, 0} }, api.ErrArg},
		}),
	}
}

// TestOrderOfErrors has arguments with some errors: the one that the chapter's table names first must show, and all other results are zero.
func TestOrderOfErrors(t *testing.T) {
	for name, list := range faults() {
		call := calls()[name]
		try := func(l ...fault) {
			t.Helper()
			a := rightly()
			// What is named last is spoiled first, so that what is named first stays.
			for _, f := range slices.Backward(l) {
				f.spoil(&a)
			}
			if x := call(a); x.e != l[0].want || !x.zero() {
				t.Errorf("%s, %s and %d more: %+v, not %d", name, l[0].name, len(l)-1, x, l[0].want)
			}
		}
		if x := call(rightly()); x.e != api.OK {
			t.Error(name, x)
		}
		for i, f := range list {
			try(f)
			try(list[i:]...)
			for _, g := range list[i+1:] {
				try(f, g)
			}
		}
	}
}

// TestOrderOfLarge has offers with too many patterns: that comes before what is wrong with the plan and the pattern, and after what is wrong with the day and the offer.
func TestOrderOfLarge(t *testing.T) {
	many := func() asked {
		d := flat(24, market.Hour{Buy: 5, Load: 1})
		return asked{d: d, p: idle(d), o: market.Offer{From: 0, To: 24, Power: 1, Hours: 1, Calls: 4}}
	}
	for name, want := range map[string]api.Errno{"Patterns": api.ErrLarge, "Answer": api.ErrLarge, "Deliver": api.ErrLarge, "Cost": api.OK} {
		a := many()
		if x := calls()[name](a); x.e != want {
			t.Error(name, x.e)
		}
		if want == api.OK {
			continue
		}
		a.p, a.pattern = market.Plan{Starts: []int{1}}, []int{9, 8}
		if x := calls()[name](a); x.e != api.ErrLarge || !x.zero() {
			t.Error(name, x.e)
		}
		a.p = market.Plan{Charge: slices.Repeat([]int{1}, 24)}
		if x := calls()[name](a); x.e != api.ErrLarge || !x.zero() {
			t.Error(name, x.e)
		}
		a.o.Pause = 25
		if x := calls()[name](a); x.e != api.ErrOffer || !x.zero() {
			t.Error(name, x.e)
		}
		a.d.Jobs = []market.Job{{From: 0, To: 24, Hours: 1}}
		if x := calls()[name](a); x.e != api.ErrLarge || !x.zero() {
			t.Error(name, x.e)
		}
		a.d.Hours[23].Sell = 6
		if x := calls()[name](a); x.e != api.ErrRange || !x.zero() {
			t.Error(name, x.e)
		}
	}
}

// randomly returns valid arguments with which functions may have errors of their own.
func randomly(r *rand.Rand) asked {
	a := asked{d: randomDay(r, 4)}
	if b, proof, e := market.Best(a.d); e == api.OK {
		a.p, a.proof = b, proof
	} else {
		a.p, a.proof = randomPlan(r, a.d), tellProof(a.d)
	}
	a.o = randomOffer(r, a.d)
	list := tellPatterns(a.d, a.o)
	a.pattern = list[r.IntN(len(list))]
	if r.IntN(3) == 0 {
		a.p, a.proof = wrongly(r, a.d, a.p, a.proof)
	}
	return a
}

// oddly returns arguments of which some are wrong.
func oddly(r *rand.Rand) asked {
	odd := []int{math.MinInt, math.MinInt + 1, -never - 1, -never, -1 << 32, -2, -1, 0, 1, 2, 3, 4, 5, 10, 11, 20, 21, 24, 25, 40, 41, 1000, 1001, 10000, 10001, 1 << 32, never, never + 1, math.MaxInt - 1, math.MaxInt}
	a := randomly(r).copied()
	spoil := func(l ...*int) {
		for _, n := range l {
			if r.IntN(120) == 0 {
				*n = odd[r.IntN(len(odd))]
			}
		}
	}
	for i := range a.d.Hours {
		h := &a.d.Hours[i]
		spoil(&h.Buy, &h.Sell, &h.Sun, &h.Load, &h.Carbon, &h.Water)
	}
	for i := range a.d.Jobs {
		j := &a.d.Jobs[i]
		spoil(&j.From, &j.To, &j.Hours, &j.Power)
	}
	spoil(&a.d.Store.Energy, &a.d.Store.Full, &a.d.Store.Power, &a.d.Store.End, &a.d.Most, &a.d.Peak)
	spoil(&a.o.From, &a.o.To, &a.o.Power, &a.o.Hours, &a.o.Calls, &a.o.Pause, &a.p.Cost)
	for _, l := range append(slices.Clone(a.proof), a.p.Starts, a.p.Charge, a.pattern) {
		for i := range l {
			spoil(&l[i])
		}
	}
	switch r.IntN(80) {
	case 0:
		a.d.Hours = nil
	case 1:
		a.d.Jobs = nil
	case 2:
		a.d.Hours = append(a.d.Hours, make([]market.Hour, 22)...)
	case 3:
		a.d.Jobs = append(a.d.Jobs, market.Job{From: 0, To: 1, Hours: 1})
	case 4:
		a.p.Starts, a.p.Charge = a.p.Charge, a.p.Starts
	case 5:
		a.proof = append(a.proof, nil)
	case 6:
		a.pattern = append(a.pattern, 0)
	case 7:
		a.p = market.Plan{}
	}
	return a
}

// TestOddArguments calls everything with arguments that are mostly wrong: nothing may panic.
func TestOddArguments(t *testing.T) {
	r := rand.New(rand.NewPCG(10, 14))
	right, wrong := map[string]int{}, map[string]int{}
	for range 10000 {
		a := oddly(r)
		for name, call := range calls() {
			x := call(a)
			if x.e != api.OK && !x.zero() {
				t.Fatalf("%s: %+v: %+v", name, a, x)
			}
			if x.e == api.OK {
				right[name]++
			} else {
				wrong[name]++
			}
		}
	}
	for name := range calls() {
		if min(right[name], wrong[name]) < 1000 {
			t.Error("met:", name, right[name], wrong[name])
		}
	}
}

// TestNothing has the zero values as arguments, and empty lists.
func TestNothing(t *testing.T) {
	for name, call := range calls() {
		for _, a := range []asked{{}, {d: market.Day{Hours: []market.Hour{}, Jobs: []market.Job{}}, p: market.Plan{Starts: []int{}, Charge: []int{}}, proof: [][]int{}, pattern: []int{}}} {
			if x := call(a); x.e != api.ErrMany || !x.zero() {
				t.Error(name, x)
			}
		}
	}
}

// spoilAnswer changes all elements of the lists of an answer, and what may stand behind them.
func spoilAnswer(x answer) {
	for _, l := range append(slices.Clone(x.lists), x.list, x.plan.Starts, x.plan.Charge) {
		for i := range l {
			l[i] = -7
		}
		_ = append(l, -7)
	}
	for i := range x.lists {
		x.lists[i] = nil
	}
	for i := range x.rows {
		x.rows[i] = market.Row{Bought: -7}
	}
	_, _ = append(x.lists, nil), append(x.rows, market.Row{})
}

// TestOwnMemory checks that results share no memory with arguments, and that no argument is changed.
func TestOwnMemory(t *testing.T) {
	r := rand.New(rand.NewPCG(10, 15))
	for range 1000 {
		a := randomly(r)
		kept := a.copied()
		for name, call := range calls() {
			x, again := call(a), call(a)
			spoilAnswer(x)
			if !a.same(kept) {
				t.Fatal(name, "an argument was changed")
			}
			if !call(a).same(again) {
				t.Fatal(name, "a result is kept")
			}
		}
	}
}

// TestListsOfTheirOwn checks that the lists of a result share no memory with each other: each one is spoiled, and what may stand behind it.
func TestListsOfTheirOwn(t *testing.T) {
	r := rand.New(rand.NewPCG(10, 16))
	for range 1000 {
		a := randomly(r)
		for _, name := range []string{"Starts", "Patterns", "Best"} {
			x := calls()[name](a)
			lists := append(slices.Clone(x.lists), x.plan.Starts, x.plan.Charge)
			for i, l := range lists {
				kept := copiedLists(lists)
				for k := range l[:cap(l)] {
					l[:cap(l)][k] = -7
				}
				for k, other := range lists {
					if k != i && !slices.Equal(other, kept[k]) {
						t.Fatal(name, "lists share memory", i, k)
					}
				}
			}
		}
	}
}

// TestAgain checks that equal arguments have equal results, and that nil and empty are the same.
func TestAgain(t *testing.T) {
	r := rand.New(rand.NewPCG(10, 17))
	for range 1000 {
		a := randomly(r)
		b := a.copied()
		b.d.Jobs, b.pattern = append([]market.Job{}, a.d.Jobs...), append([]int{}, a.pattern...)
		b.p.Starts, b.p.Charge = append([]int{}, a.p.Starts...), append([]int{}, a.p.Charge...)
		if len(a.pattern) == 0 {
			a.pattern = nil
		}
		if len(a.p.Starts) == 0 {
			a.p.Starts = nil
		}
		for name, call := range calls() {
			if x, y := call(a), call(b); !x.same(y) {
				t.Fatalf("%s: %+v: %+v, then %+v", name, a, x, y)
			}
		}
	}
}
