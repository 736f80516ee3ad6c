package steps_test

import (
	"math"
	"math/rand/v2"
	"slices"
	"testing"

	"switchgear/api"
	"switchgear/steps"
)

// all calls every function that has an error; with an error every other result must be zero, but for Verify's index and the states of ErrNone.
func all(t *testing.T, p api.Plant, s api.State, task steps.Task, x api.Step, l []api.Step, most int, states []api.State) map[string]api.Errno {
	t.Helper()
	check := steps.CheckTask(p, task)
	ok, holds := steps.Holds(p, s, x)
	legal := steps.Legal(p, s, task)
	u, do := steps.Do(p, s, x)
	n, v, verify := steps.Verify(p, s, task, l)
	program, met, find := steps.Find(p, s, task, most)
	closed := steps.Closed(p, s, task, states)
	for _, c := range []struct {
		name string
		e    api.Errno
		zero bool
	}{
		{"Holds", holds, !ok},
		{"Do", do, zeroState(u)},
		{"Verify", verify, n >= 0 && n <= len(l) && zeroState(v)},
		{"Find", find, len(program) == 0 && (len(met) > 0) == (find == api.ErrNone)},
	} {
		if c.e != api.OK && !c.zero {
			t.Errorf("%s: a result with the error %d", c.name, c.e)
		}
	}
	return map[string]api.Errno{"CheckTask": check, "Holds": holds, "Legal": legal, "Do": do, "Verify": verify, "Find": find, "Closed": closed}
}

// TestErrorsOfAll checks that the errors of plants and states come first.
func TestErrorsOfAll(t *testing.T) {
	task := steps.Task{Crew: []int{-1}}
	for i, change := range []func(p *api.Plant){
		func(p *api.Plant) { p.Buses = 25 }, func(p *api.Plant) { p.Sources[0].Power = 0 }, func(p *api.Plant) { p.Links[0].Kind = 0 }, func(p *api.Plant) { p.Racks[0].Paths = 2 },
	} {
		p, _ := parsed(t, chapter)
		change(&p)
		for name, e := range all(t, p, api.State{}, task, api.Step{}, make([]api.Step, 257), 0, make([]api.State, 20001)) {
			if e != api.ErrBus+api.Errno(i) {
				t.Error(name, e)
			}
		}
	}
	p, s := parsed(t, chapter)
	for i := range lists(&s) {
		for _, change := range []func(l []bool) []bool{
			func(l []bool) []bool { return nil }, func(l []bool) []bool { return l[1:] }, func(l []bool) []bool { return append(l, false) },
		} {
			u := copyState(s)
			list := lists(&u)[i]
			*list = change(*list)
			for name, e := range all(t, p, u, task, api.Step{}, make([]api.Step, 257), 0, make([]api.State, 20001)) {
				if name == "CheckTask" && e != api.ErrArg || name != "CheckTask" && e != api.ErrState {
					t.Error(name, i, e)
				}
			}
		}
	}
}

// TestOddArguments calls everything with arguments that are mostly wrong: nothing may panic.
func TestOddArguments(t *testing.T) {
	r := rand.New(rand.NewPCG(44, 4))
	odd := []int{math.MinInt, -2, -1, 0, 1, 2, 3, 4, 5, 8, 9, 24, 25, 40, 20000, math.MaxInt}
	pick := func() int { return odd[r.IntN(len(odd))] }
	oddSteps := func() []api.Step {
		l := make([]api.Step, r.IntN(4))
		for i := range l {
			l[i] = step(api.Deed(pick()), pick())
		}
		return l
	}
	for range 5000 {
		p, s := parsed(t, ring)
		s.On[1], s.On[2] = false, false
		for _, l := range lists(&s) {
			switch r.IntN(16) {
			case 0:
				*l = make([]bool, r.IntN(70))
			case 1:
				(*l)[0] = !(*l)[0]
			}
		}
		numbers := []*int{&p.Buses, &p.Sources[0].Bus, &p.Sources[0].Sync, &p.Links[0].A, &p.Links[0].B, (*int)(&p.Links[1].Kind), &p.Racks[0].Feeds[0], &p.Racks[1].Feeds[1]}
		for range r.IntN(3) {
			*numbers[r.IntN(len(numbers))] = pick()
		}
		task := steps.Task{Allowed: oddSteps(), Goal: oddSteps()}
		for range r.IntN(3) {
			task.Fed, task.Crew = append(task.Fed, pick()), append(task.Crew, pick())
		}
		other := copyState(s)
		*lists(&other)[r.IntN(7)] = make([]bool, r.IntN(300))
		l := oddSteps()
		all(t, p, s, task, step(api.Deed(pick()), pick()), l, pick(), []api.State{s, other, {}}[r.IntN(2):])
		steps.Inverse(step(api.Deed(pick()), pick()))
		steps.Reverse(l)
		if t.Failed() {
			t.Fatalf("%+v %+v %+v", p, s, task)
		}
	}
}

// spoil changes all that a state holds, and what may stand behind its lists.
func spoil(s api.State) {
	for _, l := range lists(&s) {
		for i := range *l {
			(*l)[i] = !(*l)[i]
		}
		_ = append(*l, true)
	}
}

// TestOwnMemory checks that results share no memory with arguments or with each other, and that no argument is changed.
func TestOwnMemory(t *testing.T) {
	p, s := parsed(t, ring)
	s.On = []bool{true, false, false}
	kept := copyState(s)
	task := steps.Task{Fed: []int{1, 0}, Crew: nil, Allowed: both(step(api.Open, 0), step(api.Lock, 2)), Goal: []api.Step{step(api.Open, 2)}}
	same := func(name string) {
		t.Helper()
		right := steps.Task{Fed: []int{1, 0}, Allowed: both(step(api.Open, 0), step(api.Lock, 2)), Goal: []api.Step{step(api.Open, 2)}}
		if !sameState(s, kept) || !slices.Equal(task.Fed, right.Fed) || !slices.Equal(task.Allowed, right.Allowed) || !slices.Equal(task.Goal, right.Goal) {
			t.Fatal(name, "an argument was changed")
		}
		if q, _ := parsed(t, ring); !slices.Equal(p.Sources, q.Sources) || !slices.Equal(p.Racks, q.Racks) || len(p.Links) != len(q.Links) {
			t.Fatal(name, "the plant was changed")
		}
	}
	u, e := steps.Do(p, s, step(api.Lock, 4))
	if e != api.OK {
		t.Fatal(e)
	}
	spoil(u)
	same("Do")
	for n := range 3 {
		_, u, e = steps.Verify(p, s, task, task.Allowed[:n])
		if e != api.OK {
			t.Fatal(n, e)
		}
		spoil(u)
		same("Verify")
	}
	_, states, e := steps.Find(p, s, task, 100)
	if e != api.ErrNone || len(states) != 4 {
		t.Fatal(len(states), e)
	}
	for i := range states {
		others := make([]api.State, len(states))
		for k := range states {
			others[k] = copyState(states[k])
		}
		spoil(states[i])
		same("Find")
		for k := range states {
			if k != i && !sameState(states[k], others[k]) {
				t.Error("states share memory", i, k)
			}
		}
		states[i] = others[i]
	}
	task.Goal[0] = step(api.Lock, 2)
	l, _, e := steps.Find(p, s, task, 100)
	if e != api.OK || len(l) != 1 {
		t.Fatal(l, e)
	}
	l[0] = api.Step{}
	_ = append(l, api.Step{})
	task.Goal[0] = step(api.Open, 2)
	same("a program of Find")
	if e := steps.Closed(p, s, task, states); e != api.OK {
		t.Error(e)
	}
	for i := range states {
		if again, _, _ := steps.Verify(p, states[i], task, nil); again != 0 {
			t.Error(again)
		}
	}
	same("Closed")
}

// TestAgain checks that the same arguments have the same results.
func TestAgain(t *testing.T) {
	p, s := parsed(t, ring)
	s.On[0], s.Closed[4] = false, false
	task := steps.Task{Allowed: both(step(api.Open, 0), step(api.Open, 1), step(api.Stop, 1), step(api.Stop, 2), step(api.Earth, 0)), Goal: []api.Step{step(api.Start, 0)}}
	_, want, e := steps.Find(p, s, task, 1000)
	for range 5 {
		_, states, f := steps.Find(p, s, task, 1000)
		if e != api.ErrNone || f != e || !slices.EqualFunc(states, want, sameState) {
			t.Fatal(len(states), e, f)
		}
	}
}
