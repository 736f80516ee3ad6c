package place_test

import (
	"math"
	"math/rand/v2"
	"slices"
	"testing"

	"switchgear/api"
	"switchgear/place"
)

// asked has arguments for all functions.
type asked struct {
	t     place.Task
	where []int
	p     place.Placed
	l     []place.Job
	limit int
	r     place.Rack
	most  api.Ratio
}

// rightly returns arguments with which no function has an error.
func rightly() asked {
	t := place.Task{Jobs: jobs(3, chapter()), Racks: []place.Rack{rack(1, 200, 0), rack(2, 300, 1)}, Most: tenth}
	t.Jobs[2].Need[1] = 2
	p, _ := place.Best(t)
	return asked{t: t, where: []int{1, 1, -1}, p: p, l: jobs(2, chapter()), limit: 300, r: rack(2, 300, 0), most: tenth}
}

// copied returns equal arguments that share no memory with a.
func (a asked) copied() asked {
	a.t, a.where, a.l = copied(a.t), slices.Clone(a.where), copiedJobs(a.l)
	a.p.Where, a.p.Proof = slices.Clone(a.p.Where), slices.Clone(a.p.Proof)
	return a
}

// same reports whether arguments are equal.
func (a asked) same(b asked) bool {
	return sameTask(a.t, b.t) && slices.Equal(a.where, b.where) && samePlaced(a.p, b.p) && sameJobs(a.l, b.l) && a.limit == b.limit && a.r == b.r && a.most == b.most
}

// answer has what a function has answered.
type answer struct {
	ok     bool
	number int
	ratio  api.Ratio
	list   []int
	proof  []bool
	draws  []place.Draw
	rows   [][4]int
	e      api.Errno
}

// zero reports whether all but the error is zero.
func (x answer) zero() bool {
	return !x.ok && x.number == 0 && x.ratio == (api.Ratio{}) && len(x.list) == 0 && len(x.proof) == 0 && len(x.draws) == 0 && len(x.rows) == 0
}

// same reports whether two answers are equal.
func (x answer) same(y answer) bool {
	return x.ok == y.ok && x.number == y.number && x.ratio == y.ratio && slices.Equal(x.list, y.list) && slices.Equal(x.proof, y.proof) && slices.Equal(x.draws, y.draws) && slices.Equal(x.rows, y.rows) && x.e == y.e
}

// calls has all functions.
func calls() map[string]func(a asked) answer {
	return map[string]func(a asked) answer{
		"Check": func(a asked) answer { return answer{e: place.Check(a.t)} },
		"Sums": func(a asked) answer {
			l, n, e := place.Sums(a.l)
			return answer{draws: l, number: n, e: e}
		},
		"Chance": func(a asked) answer {
			c, e := place.Chance(a.l, a.limit)
			return answer{ratio: c, e: e}
		},
		"Fits": func(a asked) answer {
			ok, e := place.Fits(a.l, a.r, a.most)
			return answer{ok: ok, e: e}
		},
		"Allowed": func(a asked) answer {
			ok, e := place.Allowed(a.t, a.where)
			return answer{ok: ok, e: e}
		},
		"Best": func(a asked) answer {
			p, e := place.Best(a.t)
			return answer{list: p.Where, number: p.Worth, proof: p.Proof, e: e}
		},
		"Verify": func(a asked) answer { return answer{e: place.Verify(a.t, a.p)} },
		"Fill": func(a asked) answer {
			n, e := place.Fill(a.l, a.limit, a.most)
			return answer{number: n, e: e}
		},
		"Spare": func(a asked) answer {
			l, e := place.Spare(a.t, a.where)
			return answer{rows: l, e: e}
		},
	}
}

// fault spoils arguments.
type fault struct {
	name  string
	spoil func(a *asked)
	want  api.Errno
}

// manyCombinations returns eight jobs that have too many combinations.
func manyCombinations() []place.Job { return wides(512, 512, 512, 512, 512, 512, 512, 512) }

// faults has, for each function, what may be wrong, in the order of the chapter's table.
func faults() map[string][]fault {
	task := []fault{
		{"many jobs", func(a *asked) { a.t.Jobs = jobs(9, chapter()) }, api.ErrMany},
		{"no rack", func(a *asked) { a.t.Racks = nil }, api.ErrMany},
		{"a job", func(a *asked) { a.t.Jobs[2].Worth = -1 }, api.ErrRange},
		{"draws", func(a *asked) { a.t.Jobs[1].Draws = nil }, api.ErrRange},
		{"a rack", func(a *asked) { a.t.Racks[1].Cap = 10001 }, api.ErrRange},
		{"most", func(a *asked) { a.t.Most = api.Ratio{N: 2, D: 4} }, api.ErrArg},
	}
	sums := []fault{
		{"many", func(a *asked) { a.l = jobs(9, chapter()) }, api.ErrMany},
		{"a job", func(a *asked) { a.l[1].Group = 101 }, api.ErrRange},
		{"draws", func(a *asked) { a.l[0].Draws[0].Count = 65 }, api.ErrRange},
		{"combinations", func(a *asked) { a.l = manyCombinations() }, api.ErrLarge},
	}
	placement := slices.Concat(task, []fault{
		{"the length", func(a *asked) { a.where = append(a.where, 0) }, api.ErrArg},
		{"a rack that is not there", func(a *asked) { a.where[0] = 2 }, api.ErrArg},
		{"combinations", func(a *asked) { a.t.Jobs, a.where = manyCombinations(), []int{1, 1, 1, 1, 1, 1, 1, 1} }, api.ErrLarge},
	})
	search := slices.Concat(task, []fault{
		{"combinations", func(a *asked) { a.t.Jobs = manyCombinations() }, api.ErrLarge},
	})
	return map[string][]fault{
		"Check":  task,
		"Sums":   sums,
		"Chance": sums,
		"Fits": slices.Concat(sums, []fault{
			{"the rack", func(a *asked) { a.r.Domain = -1 }, api.ErrRange},
			{"most", func(a *asked) { a.most = api.Ratio{N: 3, D: 2} }, api.ErrArg},
		}),
		"Allowed": placement,
		"Best":    search,
		"Verify": slices.Concat(search, []fault{
			{"not allowed", func(a *asked) { a.p.Where = []int{0, 0, 0} }, api.ErrPlace},
			{"the length", func(a *asked) { a.p.Where = append(a.p.Where, 0) }, api.ErrPlace},
			{"a rack that is not there", func(a *asked) { a.p.Where[0] = -2 }, api.ErrPlace},
			{"the worth", func(a *asked) { a.p.Worth++ }, api.ErrFalse},
			{"the proof", func(a *asked) { a.p.Proof = nil }, api.ErrFalse},
		}),
		"Fill": slices.Concat(sums, []fault{
			{"most", func(a *asked) { a.most = api.Ratio{} }, api.ErrArg},
		}),
		"Spare": slices.Concat(placement, []fault{
			{"not allowed", func(a *asked) { a.where = []int{0, 0, 1} }, api.ErrPlace},
		}),
	}
}

// TestOrderOfErrors has arguments with some errors: the one that the chapter's table names first must show, and all other results are zero.
func TestOrderOfErrors(t *testing.T) {
	for name, list := range faults() {
		call := calls()[name]
		try := func(l ...fault) {
			t.Helper()
			a := rightly()
			// What is named last is spoiled first, so that what is named first stays.
			for _, f := range slices.Backward(l) {
				f.spoil(&a)
			}
			if x := call(a); x.e != l[0].want || !x.zero() {
				t.Errorf("%s, %s and %d more: %+v, not %d", name, l[0].name, len(l)-1, x, l[0].want)
			}
		}
		if x := call(rightly()); x.e != api.OK {
			t.Error(name, x)
		}
		for i, f := range list {
			try(f)
			try(list[i:]...)
			for _, g := range list[i+1:] {
				try(f, g)
			}
		}
	}
	// A job that is wrong comes before a rack that is, wherever both are; both have the same error, but Most has another one.
	a := rightly()
	a.t.Jobs[2].Group, a.t.Racks[0].Domain, a.t.Most = -1, -1, api.Ratio{}
	if e := place.Check(a.t); e != api.ErrRange {
		t.Error(e)
	}
	// Many jobs without a rack.
	if e := place.Check(place.Task{Jobs: jobs(9, place.Job{})}); e != api.ErrMany {
		t.Error(e)
	}
}

// randomly returns arguments with which only Verify and Spare may have an error.
func randomly(r *rand.Rand) asked {
	a := asked{t: randomTask(r, 4, 3), l: randomJobs(r, 5), limit: from(r, -1, 20), r: randomRack(r), most: randomMost(r)}
	a.where = randomWhere(r, a.t)
	b, _ := place.Best(a.t)
	a.p = wrongly(r, a.t, b)
	return a
}

// oddly returns arguments of which some are wrong.
func oddly(r *rand.Rand) asked {
	odd := []int{math.MinInt, math.MinInt + 1, -1000001, -2, -1, 0, 1, 2, 5, 8, 9, 64, 65, 100, 101, 512, 1000, 1001, 10000, 10001, 1000000, 1000001, 1 << 32, 1 << 40, math.MaxInt - 1, math.MaxInt}
	a := randomly(r)
	spoil := func(l ...*int) {
		for _, n := range l {
			if r.IntN(120) == 0 {
				*n = odd[r.IntN(len(odd))]
			}
		}
	}
	spoilJobs := func(l []place.Job) {
		for i := range l {
			j := &l[i]
			spoil(&j.Need[0], &j.Need[1], &j.Need[2], &j.Group, &j.Worth)
			for k := range j.Draws {
				spoil(&j.Draws[k].Power, &j.Draws[k].Count)
			}
			if r.IntN(60) == 0 {
				j.Draws = nil
			}
			if r.IntN(20) == 0 {
				j.Draws = wide(512).Draws
			}
		}
	}
	spoilJobs(a.t.Jobs)
	spoilJobs(a.l)
	for i := range a.t.Racks {
		k := &a.t.Racks[i]
		spoil(&k.Room[0], &k.Room[1], &k.Room[2], &k.Cap, &k.Domain)
	}
	spoil(&a.t.Most.N, &a.t.Most.D, &a.most.N, &a.most.D, &a.limit, &a.p.Worth, &a.r.Room[0], &a.r.Room[1], &a.r.Room[2], &a.r.Cap, &a.r.Domain)
	for _, l := range [][]int{a.where, a.p.Where} {
		for i := range l {
			spoil(&l[i])
		}
	}
	switch r.IntN(60) {
	case 0:
		a.t.Jobs = nil
	case 1:
		a.t.Racks = nil
	case 2:
		a.l = append(a.l, jobs(8, wide(512))...)
	case 3:
		a.where, a.p.Proof = nil, nil
	case 4:
		a.t.Jobs = append(a.t.Jobs, wide(3))
	case 5:
		a.l = append(jobs(6, wide(512)), a.l...)
	}
	return a
}

// TestOddArguments calls everything with arguments that are mostly wrong: nothing may panic.
func TestOddArguments(t *testing.T) {
	r := rand.New(rand.NewPCG(9, 13))
	right, wrong := map[string]int{}, map[string]int{}
	for range 10000 {
		a := oddly(r)
		for name, call := range calls() {
			x := call(a)
			if x.e != api.OK && !x.zero() {
				t.Fatalf("%s: %+v: %+v", name, a, x)
			}
			if x.e == api.OK {
				right[name]++
			} else {
				wrong[name]++
			}
		}
	}
	for name := range calls() {
		if min(right[name], wrong[name]) < 1000 {
			t.Error("met:", name, right[name], wrong[name])
		}
	}
}

// TestNothing has the zero values as arguments.
func TestNothing(t *testing.T) {
	for name, want := range map[string]answer{
		"Check": {e: api.ErrMany}, "Allowed": {e: api.ErrMany}, "Best": {e: api.ErrMany}, "Verify": {e: api.ErrMany}, "Spare": {e: api.ErrMany},
		"Sums": {draws: []place.Draw{{0, 1}}, number: 1}, "Chance": {ratio: never}, "Fits": {e: api.ErrArg}, "Fill": {e: api.ErrArg},
	} {
		if x := calls()[name](asked{}); !x.same(want) {
			t.Error(name, x)
		}
	}
}

// spoilAnswer changes all elements of the lists of an answer, and what may stand behind them.
func spoilAnswer(x answer) {
	for i := range x.list {
		x.list[i] = -7
	}
	for i := range x.proof {
		x.proof[i] = !x.proof[i]
	}
	for i := range x.draws {
		x.draws[i] = place.Draw{Power: -7, Count: -7}
	}
	for i := range x.rows {
		x.rows[i] = [4]int{-7, -7, -7, -7}
	}
	_, _ = append(x.list, -7), append(x.proof, true)
	_, _ = append(x.draws, place.Draw{}), append(x.rows, [4]int{})
}

// TestOwnMemory checks that results share no memory with arguments, and that no argument is changed.
func TestOwnMemory(t *testing.T) {
	r := rand.New(rand.NewPCG(9, 14))
	for range 1000 {
		a := randomly(r)
		if r.IntN(4) == 0 {
			// A list with one job has the sums of its draws.
			a.l = []place.Job{randomJob(r)}
		}
		kept := a.copied()
		for name, call := range calls() {
			x, again := call(a), call(a)
			spoilAnswer(x)
			if !a.same(kept) {
				t.Fatal(name, "an argument was changed")
			}
			if !call(a).same(again) {
				t.Fatal(name, "a result is kept")
			}
		}
	}
}

// TestAgain checks that equal arguments have equal results, and that nil and empty are the same.
func TestAgain(t *testing.T) {
	r := rand.New(rand.NewPCG(9, 15))
	for range 1000 {
		a := randomly(r)
		b := a.copied()
		b.t.Jobs, b.l = append([]place.Job{}, a.t.Jobs...), append([]place.Job{}, a.l...)
		b.where, b.p.Where, b.p.Proof = append([]int{}, a.where...), append([]int{}, a.p.Where...), append([]bool{}, a.p.Proof...)
		for name, call := range calls() {
			if x, y := call(a), call(b); !x.same(y) {
				t.Fatalf("%s: %+v: %+v, then %+v", name, a, x, y)
			}
		}
	}
}
