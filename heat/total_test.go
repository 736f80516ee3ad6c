package heat_test

import (
	"math"
	"math/rand/v2"
	"slices"
	"testing"

	"switchgear/api"
	"switchgear/heat"
)

// asked has arguments for all functions.
type asked struct {
	h            heat.Hall
	t, low, high []int
	c            heat.Case
	l            []heat.Case
	k            heat.Class
	n, pump      int
}

// rightly returns arguments with which no function has an error.
func rightly() asked {
	h := walled(100, heat.Wall{A: 0, B: 1, Pass: 5}, heat.Wall{A: 1, B: -1, Pass: 5})
	h.Branches = []heat.Branch{{Up: -1}, {Up: 0, Open: 1}}
	h.Coolers = []heat.Cooler{{Room: 1, Branch: 1, Gain: 5, Carry: 5, Supply: 3}}
	c := heat.Case{Load: []int{0, 0}, Pump: 8}
	k := alone(c)
	k.High = heat.Case{Load: []int{0, 3}, Out: 9, Pump: 7}
	return asked{h: h, t: []int{0, 0}, low: []int{0, 0}, high: []int{90, 90}, c: c, l: []heat.Case{c, k.High}, k: k, n: 3, pump: 8}
}

// copied returns equal arguments that share no memory with a.
func (a asked) copied() asked {
	a.h, a.c, a.k = copied(a.h), copiedCase(a.c), copiedClass(a.k)
	a.t, a.low, a.high = slices.Clone(a.t), slices.Clone(a.low), slices.Clone(a.high)
	a.l = slices.Clone(a.l)
	for i := range a.l {
		a.l[i] = copiedCase(a.l[i])
	}
	return a
}

// same reports whether arguments are equal.
func (a asked) same(b asked) bool {
	return sameHall(a.h, b.h) && sameRows([][]int{a.t, a.low, a.high}, [][]int{b.t, b.low, b.high}) &&
		sameCase(a.c, b.c) && slices.EqualFunc(a.l, b.l, sameCase) && sameCase(a.k.Low, b.k.Low) && sameCase(a.k.High, b.k.High)
}

// answer has what a function has answered.
type answer struct {
	lists   [][]int
	numbers []int
	ok      bool
	e       api.Errno
}

// zero reports whether all but the error is zero.
func (x answer) zero() bool {
	return !x.ok && !slices.ContainsFunc(x.lists, func(l []int) bool { return len(l) > 0 }) && !slices.ContainsFunc(x.numbers, func(n int) bool { return n != 0 })
}

// same reports whether two answers are equal.
func (x answer) same(y answer) bool {
	return sameRows(x.lists, y.lists) && slices.Equal(x.numbers, y.numbers) && x.ok == y.ok && x.e == y.e
}

// calls has all functions.
func calls() map[string]func(a asked) answer {
	return map[string]func(a asked) answer{
		"Check": func(a asked) answer { return answer{e: heat.Check(a.h)} },
		"Flows": func(a asked) answer {
			l, e := heat.Flows(a.h, a.pump)
			return answer{lists: [][]int{l}, e: e}
		},
		"Taken": func(a asked) answer {
			l, e := heat.Taken(a.h, a.t, a.pump)
			return answer{lists: [][]int{l}, e: e}
		},
		"Next": func(a asked) answer {
			l, e := heat.Next(a.h, a.t, a.c)
			return answer{lists: [][]int{l}, e: e}
		},
		"Run": func(a asked) answer {
			l, e := heat.Run(a.h, a.t, a.l)
			return answer{lists: l, e: e}
		},
		"Belongs": func(a asked) answer {
			ok, e := heat.Belongs(a.h, a.k, a.c)
			return answer{ok: ok, e: e}
		},
		"Bounds": func(a asked) answer {
			lows, highs, e := heat.Bounds(a.h, a.low, a.high, a.k, a.n)
			return answer{lists: slices.Concat(lows, highs), e: e}
		},
		"Ride": func(a asked) answer {
			n, room, e := heat.Ride(a.h, a.t, a.k, a.n)
			return answer{numbers: []int{n, room}, e: e}
		},
		"Settle": func(a asked) answer {
			l, n, e := heat.Settle(a.h, a.t, a.c, a.n)
			return answer{lists: [][]int{l}, numbers: []int{n}, e: e}
		},
		"Held": func(a asked) answer {
			ok, e := heat.Held(a.h, a.low, a.high, a.k)
			return answer{ok: ok, e: e}
		},
	}
}

// fault spoils arguments.
type fault struct {
	name  string
	spoil func(a *asked)
	want  api.Errno
}

// faults has, for each function, what may be wrong, in the order of the chapter's table.
func faults() map[string][]fault {
	hall := []fault{
		{"many", func(a *asked) { a.h.Walls = slices.Repeat(a.h.Walls, 9) }, api.ErrMany},
		{"range", func(a *asked) { a.h.Rooms[1].Limit = -1 }, api.ErrRange},
		{"heat", func(a *asked) { a.h.Rooms[0].Store = 4 }, api.ErrHeat},
	}
	pump := fault{"pump", func(a *asked) { a.pump = -1 }, api.ErrRange}
	times := fault{"time", func(a *asked) { a.n = heat.MaxTime + 1 }, api.ErrMany}
	now := []fault{
		{"lists", func(a *asked) { a.t = append(a.t, 1) }, api.ErrArg},
		{"temperatures", func(a *asked) { a.t[0] = -1 }, api.ErrRange},
	}
	next := []fault{
		now[0],
		{"loads", func(a *asked) { a.c.Load = append(a.c.Load, 1) }, api.ErrArg},
		now[1],
		{"numbers", func(a *asked) { a.c.Out = -1 }, api.ErrRange},
	}
	run := []fault{
		{"cases", func(a *asked) { a.l = slices.Repeat(a.l, heat.MaxTime) }, api.ErrMany},
		now[0],
		{"loads", func(a *asked) { a.l[len(a.l)-1].Load = nil }, api.ErrArg},
		now[1],
		{"numbers", func(a *asked) { a.l[0].Pump = -1 }, api.ErrRange},
	}
	class := []fault{
		{"Low's loads", func(a *asked) { a.k.Low.Load = a.k.Low.Load[:1] }, api.ErrArg},
		{"High's loads", func(a *asked) { a.k.High.Load = append(a.k.High.Load, 1) }, api.ErrArg},
		{"Low's numbers", func(a *asked) { a.k.Low.Pump = heat.MaxFlow + 1 }, api.ErrRange},
		{"High's numbers", func(a *asked) { a.k.High.Load[0] = -1 }, api.ErrRange},
		{"the class", func(a *asked) { a.k.Low.Out, a.k.High.Out = 9, 8 }, api.ErrBox},
	}
	belongs := slices.Insert(slices.Clone(class), 4, next[3])
	belongs = slices.Insert(belongs, 2, next[1])
	box := []fault{
		{"low's list", func(a *asked) { a.low = a.low[:1] }, api.ErrArg},
		{"high's list", func(a *asked) { a.high = append(a.high, 90) }, api.ErrArg},
		{"low's numbers", func(a *asked) { a.low[0] = heat.MaxKelvin + 1 }, api.ErrRange},
		{"high's numbers", func(a *asked) { a.high[0] = -1 }, api.ErrRange},
		{"the box", func(a *asked) { a.low[0] = 91 }, api.ErrBox},
	}
	late := fault{"late", func(a *asked) { a.n = 0 }, api.ErrTime}
	return map[string][]fault{
		"Check":   hall,
		"Flows":   slices.Concat(hall, []fault{pump}),
		"Taken":   slices.Concat(hall, now, []fault{pump}),
		"Next":    slices.Concat(hall, next),
		"Run":     slices.Concat(hall, run),
		"Belongs": slices.Concat(hall, belongs),
		"Bounds":  slices.Concat(hall, class, box, []fault{times}),
		"Held":    slices.Concat(hall, class, box),
		"Ride":    slices.Concat(hall, class, now, []fault{times}),
		"Settle":  slices.Concat(hall, next, []fault{times, late}),
	}
}

// TestOrderOfErrors has arguments with some errors: the one that the chapter's table names first must show, and all other results are zero.
func TestOrderOfErrors(t *testing.T) {
	for name, list := range faults() {
		call := calls()[name]
		try := func(l ...fault) {
			t.Helper()
			a := rightly()
			// What is named last is spoiled first, so that what is named first stays.
			for _, f := range slices.Backward(l) {
				f.spoil(&a)
			}
			if x := call(a); x.e != l[0].want || !x.zero() {
				t.Errorf("%s, %s and %d more: %+v, not %d", name, l[0].name, len(l)-1, x, l[0].want)
			}
		}
		if x := call(rightly()); x.e != api.OK {
			t.Error(name, x)
		}
		for i, f := range list {
			try(f)
			try(list[i:]...)
			for _, g := range list[i+1:] {
				try(f, g)
			}
		}
	}
}

// randomly returns arguments of a world with which only Settle may have an error.
func randomly(r *rand.Rand) asked {
	w := randomWorld(r)
	a := asked{h: w.Hall, t: w.temperatures(r), c: w.happening(r), l: []heat.Case{w.happening(r), w.happening(r)}, k: w.class(r), n: from(r, 0, 30), pump: from(r, 0, 60)}
	a.low, a.high = w.box(r)
	return a
}

// oddly returns arguments of which some are wrong.
func oddly(r *rand.Rand) asked {
	odd := []int{math.MinInt, math.MinInt + 1, -2, -1, 0, 1, 2, 7, 8, 9, 15, 16, 17, 100, 101, 1000, 1001, 20000, 20001, 100000, 100001, 1000000, 1000001, 10000001, math.MaxInt - 1, math.MaxInt}
	a := randomly(r)
	spoil := func(l ...*int) {
		for _, n := range l {
			if r.IntN(60) == 0 {
				*n = odd[r.IntN(len(odd))]
			}
		}
	}
	for i := range a.h.Rooms {
		x := &a.h.Rooms[i]
		spoil(&x.Store, &x.Limit, &a.t[i], &a.low[i], &a.high[i], &a.c.Load[i], &a.k.Low.Load[i], &a.k.High.Load[i], &a.l[1].Load[i])
	}
	for i := range a.h.Walls {
		x := &a.h.Walls[i]
		spoil(&x.A, &x.B, &x.Pass)
	}
	for i := range a.h.Branches {
		x := &a.h.Branches[i]
		spoil(&x.Up, &x.Open, &x.Leak)
	}
	for i := range a.h.Coolers {
		x := &a.h.Coolers[i]
		spoil(&x.Room, &x.Branch, &x.Gain, &x.Carry, &x.Supply)
	}
	spoil(&a.n, &a.pump, &a.c.Out, &a.c.Pump, &a.k.Low.Out, &a.k.Low.Pump, &a.k.High.Out, &a.k.High.Pump, &a.l[0].Out, &a.l[1].Pump)
	for _, l := range []*[]int{&a.t, &a.low, &a.high, &a.c.Load, &a.k.Low.Load, &a.k.High.Load, &a.l[0].Load} {
		switch r.IntN(60) {
		case 0:
			*l = nil
		case 1:
			*l = append(*l, 1)
		}
	}
	if r.IntN(60) == 0 {
		a.h = heat.Hall{}
	}
	return a
}

// TestOddArguments calls everything with arguments that are mostly wrong: nothing may panic.
func TestOddArguments(t *testing.T) {
	r := rand.New(rand.NewPCG(7, 14))
	right, wrong := map[string]int{}, map[string]int{}
	for range 20000 {
		a := oddly(r)
		for name, call := range calls() {
			x := call(a)
			if x.e != api.OK && !x.zero() {
				t.Fatalf("%s: %+v: %+v", name, a, x)
			}
			if x.e == api.OK {
				right[name]++
			} else {
				wrong[name]++
			}
		}
	}
	for name := range calls() {
		if min(right[name], wrong[name]) < 1000 {
			t.Error("met:", name, right[name], wrong[name])
		}
	}
	// Without a hall nothing else matters.
	for name, call := range calls() {
		if x := call(asked{}); x.e != api.ErrMany || !x.zero() {
			t.Error(name, x)
		}
	}
}

// spoil changes all elements of a list, and what may stand behind it.
func spoil(list []int) {
	for i := range list {
		list[i] = -7
	}
	_ = append(list, -7)
}

// TestOwnMemory checks that results share no memory with arguments or with each other, and that no argument is changed.
func TestOwnMemory(t *testing.T) {
	r := rand.New(rand.NewPCG(7, 15))
	for range 500 {
		a := randomly(r)
		kept := a.copied()
		for name, call := range calls() {
			x, again := call(a), call(a)
			for i, l := range x.lists {
				spoil(l)
				if !sameRows(x.lists[i+1:], again.lists[i+1:]) {
					t.Fatal(name, "lists share memory", i)
				}
			}
			if !a.same(kept) {
				t.Fatal(name, "an argument was changed")
			}
			if !call(a).same(again) {
				t.Fatal(name, "a result is kept")
			}
		}
	}
	// Settled at once is a result, too.
	a := rightly()
	l, n, e := heat.Settle(a.h, a.t, a.c, 5)
	if n != 0 || e != api.OK || !slices.Equal(l, a.t) {
		t.Fatal(l, n, e)
	}
	spoil(l)
	if !slices.Equal(a.t, rightly().t) {
		t.Error("Settle has returned its argument")
	}
}

// TestAgain checks that equal arguments have equal results, and that nil and empty are the same.
func TestAgain(t *testing.T) {
	r := rand.New(rand.NewPCG(7, 16))
	for range 500 {
		a := randomly(r)
		b := a.copied()
		b.h.Walls, b.h.Branches, b.h.Coolers = append([]heat.Wall{}, a.h.Walls...), append([]heat.Branch{}, a.h.Branches...), append([]heat.Cooler{}, a.h.Coolers...)
		for name, call := range calls() {
			if x, y := call(a), call(b); !x.same(y) {
				t.Fatalf("%s: %+v: %+v, then %+v", name, a, x, y)
			}
		}
	}
}
