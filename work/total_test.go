package work_test

import (
	"math"
	"math/rand/v2"
	"slices"
	"testing"

	"switchgear/api"
	"switchgear/paths"
	"switchgear/work"
)

// asked has arguments for all functions.
type asked struct {
	y      work.Yard
	jobs   []int
	starts []int
}

func (a asked) copied() asked {
	return asked{copied(a.y), slices.Clone(a.jobs), slices.Clone(a.starts)}
}

func (a asked) same(b asked) bool {
	return sameYard(a.y, b.y) && slices.Equal(a.jobs, b.jobs) && slices.Equal(a.starts, b.starts)
}

// answer has what a function has answered.
type answer struct {
	ok     bool
	number int
	list   []int
	lists  [][]int
	e      api.Errno
}

// zero reports whether all but the error is zero.
func (x answer) zero() bool { return x.same(answer{e: x.e}) }

func (x answer) same(y answer) bool {
	return x.ok == y.ok && x.number == y.number && slices.Equal(x.list, y.list) && sameLists(x.lists, y.lists) && x.e == y.e
}

// calls has all functions.
func calls() map[string]func(a asked) answer {
	return map[string]func(a asked) answer{
		"Check": func(a asked) answer { return answer{e: work.Check(a.y)} },
		"Bearable": func(a asked) answer {
			ok, e := work.Bearable(a.y, a.jobs)
			return answer{ok: ok, e: e}
		},
		"Verify": func(a asked) answer {
			n, e := work.Verify(a.y, a.starts)
			return answer{number: n, e: e}
		},
		"Plan": func(a asked) answer {
			l, e := work.Plan(a.y)
			return answer{list: l, e: e}
		},
		"Why": func(a asked) answer {
			l, e := work.Why(a.y)
			return answer{lists: l, e: e}
		},
		"Spare": func(a asked) answer {
			l, e := work.Spare(a.y, a.starts)
			return answer{list: l, e: e}
		},
	}
}

// fault spoils arguments.
type fault struct {
	name  string
	spoil func(a *asked)
	want  api.Errno
}

// faults has, for each function, what may be wrong, in the order of the chapter's table.
func faults() map[string][]fault {
	yard := []fault{
		{"buses", func(a *asked) { a.y.Plant.Buses = 25 }, api.ErrBus},
		{"a source", func(a *asked) { a.y.Plant.Sources[0].Sync = 9 }, api.ErrSource},
		{"a link", func(a *asked) { a.y.Plant.Links[0].Ohm = 0 }, api.ErrLink},
		{"a rack", func(a *asked) { a.y.Plant.Racks[0].Power = 0 }, api.ErrRack},
		{"the state", func(a *asked) { a.y.State.Earthed = nil }, api.ErrState},
		{"a transfer", func(a *asked) { a.y.Transfers[0].Watch = -1 }, api.ErrArg},
		{"many jobs", func(a *asked) { a.y.Jobs = append(a.y.Jobs, make([]work.Job, 4)...) }, api.ErrMany},
		{"the first job", func(a *asked) { a.y.Jobs[0].Hours = 0 }, api.ErrPlan},
		{"a part of the first job", func(a *asked) { a.y.Jobs[0].Parts[0].Kind = 0 }, api.ErrPart},
		{"the second job", func(a *asked) { a.y.Jobs[1].People = 21 }, api.ErrPlan},
		{"a part of the second job", func(a *asked) { a.y.Jobs[1].Parts[0].Index = 3 }, api.ErrPart},
		{"people", func(a *asked) { a.y.People = 1001 }, api.ErrArg},
	}
	starts := append(slices.Clone(yard),
		fault{"starts", func(a *asked) { a.starts = a.starts[:1] }, api.ErrArg},
		fault{"a start", func(a *asked) { a.starts[0] = 9 }, api.ErrTime},
		fault{"the second start", func(a *asked) { a.starts[1] = 8 }, api.ErrTime},
		fault{"a plan", func(a *asked) { a.starts[1] = 0 }, api.ErrPlan},
	)
	return map[string][]fault{
		"Check":    yard,
		"Bearable": append(slices.Clone(yard), fault{"the set", func(a *asked) { a.jobs = []int{1, 1} }, api.ErrArg}),
		"Verify":   starts,
		"Plan":     append(slices.Clone(yard), fault{"redundancy", func(a *asked) { a.y.Redundant = true }, api.ErrNone}),
		"Why":      yard,
		"Spare":    starts,
	}
}

// rightly returns arguments with which no function has an error.
func rightly() asked {
	y := example()
	y.Transfers = []paths.Transfer{relay}
	return asked{y, []int{1}, []int{0, 2}}
}

// TestOrderOfErrors has arguments with some errors: the one that the chapter's table names first must show, and all other results are zero.
func TestOrderOfErrors(t *testing.T) {
	for name, list := range faults() {
		call := calls()[name]
		spoiled := func(l ...fault) {
			t.Helper()
			a := rightly()
			// What is named last is spoiled first, so that what is named first stays.
			for _, f := range slices.Backward(l) {
				f.spoil(&a)
			}
			if x := call(a); x.e != l[0].want || !x.zero() {
				t.Errorf("%s, %s and %d more: %+v, not %d", name, l[0].name, len(l)-1, x, l[0].want)
			}
		}
		if x := call(rightly()); x.e != api.OK {
			t.Error(name, x)
		}
		for i, f := range list {
			spoiled(f)
			spoiled(list[i:]...)
			for _, g := range list[i+1:] {
				spoiled(f, g)
			}
		}
	}
}

// randomly returns arguments of which the yard is right.
func randomly(r *rand.Rand) asked {
	a := asked{y: randomYard(r, 5, 5)}
	a.jobs = r.Perm(len(a.y.Jobs))[:r.IntN(len(a.y.Jobs)+1)]
	for _, x := range a.y.Jobs {
		a.starts = append(a.starts, from(r, x.From, x.To-x.Hours))
	}
	if l, e := work.Plan(a.y); e == api.OK && r.IntN(2) == 0 {
		a.starts = l
	}
	return a
}

// oddly returns arguments of which some are wrong.
func oddly(r *rand.Rand) asked {
	odd := []int{math.MinInt, math.MinInt + 1, -1 << 32, -2, -1, 0, 1, 2, 4, 5, 6, 8, 9, 20, 21, 24, 47, 48, 49, 63, 64, 1000, 1001, 1 << 32, math.MaxInt - 48, math.MaxInt - 1, math.MaxInt}
	a := randomly(r).copied()
	spoil := func(l ...*int) {
		for _, n := range l {
			if r.IntN(60) == 0 {
				*n = odd[r.IntN(len(odd))]
			}
		}
	}
	spoil(&a.y.Plant.Buses, &a.y.Plant.Sources[0].Bus, &a.y.Plant.Links[0].B, &a.y.Plant.Racks[0].Paths, &a.y.People)
	for i := range a.y.Transfers {
		spoil(&a.y.Transfers[i].Watch, &a.y.Transfers[i].Open, &a.y.Transfers[i].Close)
	}
	for i := range a.y.Jobs {
		x := &a.y.Jobs[i]
		spoil(&x.Hours, &x.From, &x.To, &x.People, (*int)(&x.Parts[0].Kind), &x.Parts[0].Index)
		for k := range x.After {
			spoil(&x.After[k])
		}
	}
	for _, l := range [][]int{a.jobs, a.starts} {
		for i := range l {
			spoil(&l[i])
		}
	}
	switch r.IntN(40) {
	case 0:
		a.y.State = api.State{}
	case 1:
		a.y.Transfers = append(a.y.Transfers, make([]paths.Transfer, 17)...)
	case 2:
		a.y.Jobs = append(a.y.Jobs, a.y.Jobs...)
	case 3:
		a.y.Jobs = append(a.y.Jobs, work.Job{})
	case 4:
		a.jobs = append(a.jobs, 0)
	case 5:
		a.starts = append(a.starts, 0)
	case 6:
		a.starts = nil
	}
	return a
}

// TestOddArguments calls everything with arguments that are often wrong: nothing may panic.
func TestOddArguments(t *testing.T) {
	r := rand.New(rand.NewPCG(12, 10))
	right, wrong := map[string]int{}, map[string]int{}
	for range 4000 {
		a := oddly(r)
		for name, call := range calls() {
			x := call(a)
			if x.e == api.OK {
				right[name]++
				continue
			}
			wrong[name]++
			if name == "Verify" && x.e == api.ErrPlan {
				if x.number < 0 || x.number > 47 {
					t.Fatalf("%s: %+v: %+v", name, a, x)
				}
				x.number = 0
			}
			if !x.zero() {
				t.Fatalf("%s: %+v: %+v", name, a, x)
			}
		}
	}
	for name := range calls() {
		if min(right[name], wrong[name]) < 500 {
			t.Error("met:", name, right[name], wrong[name])
		}
	}
}

// TestNothing has the zero values as arguments, and empty lists.
func TestNothing(t *testing.T) {
	empty := asked{
		y: work.Yard{
			Plant:     api.Plant{Buses: 1, Sources: []api.Source{}, Links: []api.Link{}, Racks: []api.Rack{}},
			State:     api.State{Closed: []bool{}, Locked: []bool{}, BadLink: []bool{}, On: []bool{}, BadSource: []bool{}, Earthed: []bool{false}, BadBus: []bool{false}},
			Transfers: []paths.Transfer{},
			Jobs:      []work.Job{},
		},
		jobs:   []int{},
		starts: []int{},
	}
	without := asked{y: work.Yard{Plant: api.Plant{Buses: 1}, State: api.State{Earthed: []bool{false}, BadBus: []bool{false}}}}
	for name, call := range calls() {
		for _, a := range []asked{empty, without} {
			if x := call(a); x.e != api.OK || !x.same(answer{ok: name == "Bearable"}) {
				t.Error(name, x)
			}
		}
		if x := call(asked{}); x.e != api.ErrBus || !x.zero() {
			t.Error(name, x)
		}
	}
}

// spoilAnswer changes all elements of the lists of an answer, and what may stand behind them.
func spoilAnswer(x answer) {
	for _, l := range append(slices.Clone(x.lists), x.list) {
		for i := range l[:cap(l)] {
			l[:cap(l)][i] = -7
		}
	}
	clear(x.lists)
}

// TestOwnMemory checks that results share no memory with arguments, that no argument is changed, and that equal arguments have equal results.
func TestOwnMemory(t *testing.T) {
	r := rand.New(rand.NewPCG(12, 11))
	for range 500 {
		a := randomly(r)
		kept := a.copied()
		for name, call := range calls() {
			x, again := call(a), call(kept)
			if !x.same(again) {
				t.Fatal(name, "equal arguments have other results")
			}
			spoilAnswer(x)
			if !a.same(kept) {
				t.Fatal(name, "an argument was changed")
			}
			if !call(a).same(again) {
				t.Fatal(name, "a result is kept")
			}
		}
	}
}

// TestRoomBehindArguments checks that nothing is written behind the lists of arguments.
func TestRoomBehindArguments(t *testing.T) {
	a := rightly()
	a.y.Redundant = true
	parts := slices.Repeat([]api.Part{link(0)}, 8)
	jobs := slices.Repeat([]int{1}, 8)
	starts := slices.Repeat([]int{2}, 8)
	a.y.Jobs[0].Parts, a.jobs, a.starts = parts[:1], jobs[:1], starts[:2]
	for name, call := range calls() {
		call(a)
		if slices.ContainsFunc(parts, func(x api.Part) bool { return x != link(0) }) || slices.Max(jobs) != slices.Min(jobs) || slices.Max(starts) != slices.Min(starts) {
			t.Error(name, parts, jobs, starts)
		}
	}
}

// TestListsOfTheirOwn checks that the lists of a result share no memory with each other: each one is spoiled, and what may stand behind it.
func TestListsOfTheirOwn(t *testing.T) {
	r := rand.New(rand.NewPCG(12, 12))
	met := 0
	for range 500 {
		lists, _ := work.Why(randomYard(r, 5, 5))
		for i, l := range lists {
			kept := slices.Clone(lists)
			for k := range kept {
				kept[k] = slices.Clone(kept[k])
			}
			for k := range l[:cap(l)] {
				l[:cap(l)][k] = -7
			}
			for k, other := range lists {
				if k != i && !slices.Equal(other, kept[k]) {
					t.Fatal("lists share memory", i, k)
				}
			}
		}
		met += len(lists)
	}
	if met < 500 {
		t.Error("met:", met)
	}
}
