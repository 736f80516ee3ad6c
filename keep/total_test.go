package keep_test

import (
	"math"
	"math/rand/v2"
	"slices"
	"testing"

	"switchgear/api"
	"switchgear/heat"
	"switchgear/keep"
)

// asked has arguments for all functions.
type asked struct {
	g, b             keep.Game
	x                keep.Result
	in, out, control int
	shocks, controls []int
	w                world
	most             int
}

// rightly returns arguments with which no function has an error.
func rightly() asked {
	g := chapter()
	x, _ := keep.Solve(g)
	w := world{h: walled(10, 2, heat.Wall{A: 0, B: -1, Pass: 1}), k: alone(heat.Case{Load: []int{0, 0}, Out: 100}), low: []int{105, 3}, high: []int{300, 4}}
	return asked{g: g, b: chapter(), x: x, in: warm, out: hot, control: on, shocks: []int{sun, calm, sun}, controls: []int{off, on}, w: w, most: 50}
}

// copied returns equal arguments that share no memory with a.
func (a asked) copied() asked {
	a.g, a.b, a.x = copied(a.g), copied(a.b), copiedResult(a.x)
	a.w.h.Rooms, a.w.h.Walls = slices.Clone(a.w.h.Rooms), slices.Clone(a.w.h.Walls)
	a.w.h.Branches, a.w.h.Coolers = slices.Clone(a.w.h.Branches), slices.Clone(a.w.h.Coolers)
	for _, l := range []*[]int{&a.shocks, &a.controls, &a.w.low, &a.w.high, &a.w.k.Low.Load, &a.w.k.High.Load} {
		*l = slices.Clone(*l)
	}
	return a
}

// same reports whether arguments are equal.
func (a asked) same(b asked) bool {
	return sameGame(a.g, b.g) && sameGame(a.b, b.b) && sameResult(a.x, b.x) && slices.Equal(a.shocks, b.shocks) && slices.Equal(a.controls, b.controls) &&
		slices.Equal(a.w.h.Rooms, b.w.h.Rooms) && slices.Equal(a.w.h.Walls, b.w.h.Walls) && slices.Equal(a.w.h.Branches, b.w.h.Branches) && slices.Equal(a.w.h.Coolers, b.w.h.Coolers) &&
		slices.Equal(a.w.low, b.w.low) && slices.Equal(a.w.high, b.w.high) && slices.Equal(a.w.k.Low.Load, b.w.k.Low.Load) && slices.Equal(a.w.k.High.Load, b.w.k.High.Load)
}

// answer has what a function has answered.
type answer struct {
	truths  []bool
	lists   [][]int
	numbers []int
	e       api.Errno
}

// zero reports whether all but the error is zero.
func (x answer) zero() bool {
	return len(x.truths) == 0 && !slices.ContainsFunc(x.lists, func(l []int) bool { return len(l) > 0 }) && !slices.ContainsFunc(x.numbers, func(n int) bool { return n != 0 })
}

// same reports whether two answers are equal.
func (x answer) same(y answer) bool {
	return slices.Equal(x.truths, y.truths) && slices.EqualFunc(x.lists, y.lists, slices.Equal) && slices.Equal(x.numbers, y.numbers) && x.e == y.e
}

// gameAnswer returns an answer that has a game.
func gameAnswer(g keep.Game, e api.Errno) answer {
	return answer{truths: g.Good, lists: [][]int{g.Next}, numbers: []int{g.States, g.Controls, g.Shocks}, e: e}
}

// calls has all functions.
func calls() map[string]func(a asked) answer {
	return map[string]func(a asked) answer{
		"Check": func(a asked) answer { return answer{e: keep.Check(a.g)} },
		"Solve": func(a asked) answer {
			r, e := keep.Solve(a.g)
			return answer{truths: r.In, lists: [][]int{r.Control, r.Rank}, e: e}
		},
		"Verify": func(a asked) answer { return answer{e: keep.Verify(a.g, a.x)} },
		"Play": func(a asked) answer {
			l, e := keep.Play(a.g, a.x, a.in, a.shocks)
			return answer{lists: [][]int{l}, e: e}
		},
		"Force": func(a asked) answer {
			shocks, states, e := keep.Force(a.g, a.x, a.out, a.controls)
			return answer{lists: [][]int{shocks, states}, e: e}
		},
		"Product": func(a asked) answer { return gameAnswer(keep.Product(a.g, a.b)) },
		"Without": func(a asked) answer { return gameAnswer(keep.Without(a.g, a.control)) },
		"Box": func(a asked) answer {
			low, high, n, e := keep.Box(a.w.h, a.w.low, a.w.high, a.w.k, a.most)
			return answer{lists: [][]int{low, high}, numbers: []int{n}, e: e}
		},
	}
}

// fault spoils arguments.
type fault struct {
	name  string
	spoil func(a *asked)
	want  api.Errno
}

// faults has, for each function, what may be wrong, in the order of the chapter's table.
func faults() map[string][]fault {
	game := []fault{
		{"many", func(a *asked) { a.g.Shocks = 17 }, api.ErrMany},
		{"lists", func(a *asked) { a.g.Good = append(a.g.Good, true) }, api.ErrArg},
		{"next", func(a *asked) { a.g.Next[0] = -2 }, api.ErrRange},
	}
	other := []fault{
		{"b: many", func(a *asked) { a.b.Controls = 0 }, api.ErrMany},
		{"b: lists", func(a *asked) { a.b.Next = append(a.b.Next, 0) }, api.ErrArg},
		{"b: next", func(a *asked) { a.b.Next[0] = 400 }, api.ErrRange},
	}
	certificate := slices.Concat(game, []fault{{"the certificate", func(a *asked) { a.x.Rank[hot] = -1 }, api.ErrFalse}})
	return map[string][]fault{
		"Check":  game,
		"Solve":  game,
		"Verify": certificate,
		"Play": slices.Concat(certificate, []fault{
			{"the state", func(a *asked) { a.in = 3 }, api.ErrArg},
			{"a shock", func(a *asked) { a.shocks[len(a.shocks)-1] = 2 }, api.ErrArg},
			{"many shocks", func(a *asked) { a.shocks = slices.Repeat(a.shocks, keep.MaxPlays) }, api.ErrMany},
			{"not in", func(a *asked) { a.in = hot }, api.ErrState},
		}),
		"Force": slices.Concat(certificate, []fault{
			{"the state", func(a *asked) { a.out = -1 }, api.ErrArg},
			{"a control", func(a *asked) { a.controls = append(a.controls, -1) }, api.ErrArg},
			{"in", func(a *asked) { a.out = cool }, api.ErrState},
		}),
		"Product": slices.Concat(game, other, []fault{
			{"many of both", func(a *asked) { a.g, a.b = still(21, 1, 1), still(20, 1, 1) }, api.ErrMany},
		}),
		"Without": slices.Concat(game, []fault{
			{"the control", func(a *asked) { a.control = 2 }, api.ErrArg},
			{"the only one", func(a *asked) { a.g, a.control = still(3, 1, 2), 0 }, api.ErrMany},
		}),
		"Box": {
			{"the hall", func(a *asked) { a.w.h.Rooms = nil }, api.ErrMany},
			{"the hall's numbers", func(a *asked) { a.w.h.Rooms[1].Limit = -1 }, api.ErrRange},
			{"the hall's slope", func(a *asked) { a.w.h.Walls[0].Pass = 11 }, api.ErrHeat},
			{"the class's loads", func(a *asked) { a.w.k.High.Load = nil }, api.ErrArg},
			{"the class's numbers", func(a *asked) { a.w.k.Low.Pump = -1 }, api.ErrRange},
			{"the class", func(a *asked) { a.w.k.Low.Out = 101 }, api.ErrBox},
			{"the lists", func(a *asked) { a.w.low = append(a.w.low, 1) }, api.ErrArg},
			{"their numbers", func(a *asked) { a.w.high[0] = -1 }, api.ErrRange},
			{"the box", func(a *asked) { a.w.low[1] = 5 }, api.ErrBox},
			{"the time", func(a *asked) { a.most = -1 }, api.ErrMany},
			{"not in time", func(a *asked) { a.most = 0 }, api.ErrTime},
		},
	}
}

// TestOrderOfErrors has arguments with some errors: the one that the chapter's table names first must show, and all other results are zero.
func TestOrderOfErrors(t *testing.T) {
	for name, list := range faults() {
		call := calls()[name]
		try := func(l ...fault) {
			t.Helper()
			a := rightly()
			// What is named last is spoiled first, so that what is named first stays.
			for _, f := range slices.Backward(l) {
				f.spoil(&a)
			}
			if x := call(a); x.e != l[0].want || !x.zero() {
				t.Errorf("%s, %s and %d more: %+v, not %d", name, l[0].name, len(l)-1, x, l[0].want)
			}
		}
		if x := call(rightly()); x.e != api.OK {
			t.Error(name, x)
		}
		for i, f := range list {
			try(f)
			try(list[i:]...)
			for _, g := range list[i+1:] {
				try(f, g)
			}
		}
	}
	// ErrTime of Force is for a game with two steps.
	g := line([]bool{true, true, false}, 1, 2, 0)
	r := solved(t, g)
	forced(t, "late", g, r, 0, []int{0}, nil, nil, api.ErrTime)
	forced(t, "late, and no control", g, r, 0, []int{1}, nil, nil, api.ErrArg)
	forced(t, "late, and no state", g, r, 3, []int{0}, nil, nil, api.ErrArg)
	r.Rank[0] = 1
	forced(t, "late, and a wrong certificate", g, r, 0, []int{0}, nil, nil, api.ErrFalse)
}

// randomly returns arguments with which only Play, Force, Without and Box may have an error.
func randomly(r *rand.Rand) asked {
	a := asked{g: randomGame(r, 8), b: randomGame(r, 8), w: randomWorld(r, 3), most: from(r, 0, 40)}
	a.x, _ = keep.Solve(a.g)
	a.in, a.out, a.control = max(0, stateOf(r, a.x, true)), max(0, stateOf(r, a.x, false)), r.IntN(a.g.Controls)
	a.shocks, a.controls = chosen(r, from(r, 0, 9), a.g.Shocks), chosen(r, from(r, 0, 9), a.g.Controls)
	return a
}

// oddly returns arguments of which some are wrong.
func oddly(r *rand.Rand) asked {
	odd := []int{math.MinInt, math.MinInt + 1, -17, -2, -1, 0, 1, 2, 8, 9, 15, 16, 17, 399, 400, 401, 10000, 20000, 20001, 1 << 32, math.MaxInt - 1, math.MaxInt}
	a := randomly(r)
	spoil := func(l ...*int) {
		for _, n := range l {
			if r.IntN(60) == 0 {
				*n = odd[r.IntN(len(odd))]
			}
		}
	}
	spoilList := func(l *[]int) {
		for i := range *l {
			spoil(&(*l)[i])
		}
		switch r.IntN(60) {
		case 0:
			*l = nil
		case 1:
			*l = append(*l, odd[r.IntN(len(odd))])
		}
	}
	spoil(&a.g.States, &a.g.Controls, &a.g.Shocks, &a.b.States, &a.b.Controls, &a.b.Shocks, &a.in, &a.out, &a.control, &a.most)
	for _, l := range []*[]int{&a.x.Control, &a.x.Rank, &a.shocks, &a.controls, &a.w.low, &a.w.high, &a.w.k.Low.Load, &a.w.k.High.Load} {
		spoilList(l)
	}
	if r.IntN(8) == 0 {
		spoilList(&a.g.Next)
		spoilList(&a.b.Next)
	}
	for _, l := range []*[]bool{&a.g.Good, &a.b.Good, &a.x.In} {
		switch r.IntN(60) {
		case 0:
			*l = nil
		case 1:
			*l = append(*l, true)
		}
	}
	return a
}

// TestOddArguments calls everything with arguments that are mostly wrong: nothing may panic.
func TestOddArguments(t *testing.T) {
	r := rand.New(rand.NewPCG(8, 19))
	right, wrong := map[string]int{}, map[string]int{}
	for range 20000 {
		a := oddly(r)
		for name, call := range calls() {
			x := call(a)
			if x.e != api.OK && !x.zero() {
				t.Fatalf("%s: %+v: %+v", name, a, x)
			}
			if x.e == api.OK {
				right[name]++
			} else {
				wrong[name]++
			}
		}
	}
	for name := range calls() {
		if min(right[name], wrong[name]) < 1000 {
			t.Error("met:", name, right[name], wrong[name])
		}
	}
	// Without a game, or a hall, nothing else matters.
	for name, call := range calls() {
		if x := call(asked{}); x.e != api.ErrMany || !x.zero() {
			t.Error(name, x)
		}
	}
}

// spoilList changes all elements of a list, and what may stand behind it.
func spoilList(list []int) {
	for i := range list {
		list[i] = -7
	}
	_ = append(list, -7)
}

// spoilTruths changes all elements of a list, and what may stand behind it.
func spoilTruths(list []bool) {
	for i := range list {
		list[i] = !list[i]
	}
	_ = append(list, true)
}

// TestOwnMemory checks that results share no memory with arguments or with each other, and that no argument is changed.
func TestOwnMemory(t *testing.T) {
	r := rand.New(rand.NewPCG(8, 20))
	for range 500 {
		a := randomly(r)
		kept := a.copied()
		for name, call := range calls() {
			x, again := call(a), call(a)
			spoilTruths(x.truths)
			for i, l := range x.lists {
				spoilList(l)
				if !slices.EqualFunc(x.lists[i+1:], again.lists[i+1:], slices.Equal) {
					t.Fatal(name, "lists share memory", i)
				}
			}
			if !a.same(kept) {
				t.Fatal(name, "an argument was changed")
			}
			if !call(a).same(again) {
				t.Fatal(name, "a result is kept")
			}
		}
	}
	// A box that is found at once is a result, too.
	a := rightly()
	low, high := []int{99, 3}, []int{300, 4}
	x, y, n, e := keep.Box(a.w.h, low, high, a.w.k, 5)
	if n != 0 || e != api.OK || !slices.Equal(x, low) || !slices.Equal(y, high) {
		t.Fatal(x, y, n, e)
	}
	spoilList(x)
	spoilList(y)
	if !slices.Equal(low, []int{99, 3}) || !slices.Equal(high, []int{300, 4}) {
		t.Error("Box has returned its argument")
	}
	// One list for both corners stays one list of the caller.
	x, y, _, _ = keep.Box(a.w.h, high, high, a.w.k, 50)
	spoilList(x)
	if !slices.Equal(y, []int{300, 4}) || !slices.Equal(high, []int{300, 4}) {
		t.Error("Box has returned one list twice", y, high)
	}
}

// TestAgain checks that equal arguments have equal results, and that nil and empty are the same.
func TestAgain(t *testing.T) {
	r := rand.New(rand.NewPCG(8, 21))
	for range 500 {
		a := randomly(r)
		b := a.copied()
		b.shocks, b.controls = append([]int{}, a.shocks...), append([]int{}, a.controls...)
		b.w.h.Walls, b.w.h.Coolers = append([]heat.Wall{}, a.w.h.Walls...), append([]heat.Cooler{}, a.w.h.Coolers...)
		for name, call := range calls() {
			if x, y := call(a), call(b); !x.same(y) {
				t.Fatalf("%s: %+v: %+v, then %+v", name, a, x, y)
			}
		}
	}
}
