package steps_test

import (
	"math/rand/v2"
	"slices"
	"testing"

	"switchgear/api"
	"switchgear/plant"
	"switchgear/steps"
)

// reaches returns which buses can be reached from a bus over links that conduct; none if the bus has failed.
func reaches(p api.Plant, s api.State, bus int) []bool {
	met := make([]bool, p.Buses)
	met[bus] = !s.BadBus[bus]
	for range p.Buses {
		for i, x := range p.Links {
			if s.Closed[i] && !s.BadLink[i] && !s.BadBus[x.A] && !s.BadBus[x.B] && (met[x.A] || met[x.B]) {
				met[x.A], met[x.B] = true, true
			}
		}
	}
	return met
}

// live reports whether a bus is live, by ways from sources to it.
func live(p api.Plant, s api.State, bus int) bool {
	for i, x := range p.Sources {
		if s.On[i] && !s.BadSource[i] && reaches(p, s, x.Bus)[bus] {
			return true
		}
	}
	return false
}

// expectedLegal returns what the chapter's words say of a state.
func expectedLegal(p api.Plant, s api.State, task steps.Task) api.Errno {
	for bus := range p.Buses {
		if s.Earthed[bus] && live(p, s, bus) {
			return api.ErrEarthed
		}
	}
	for a, x := range p.Sources {
		for b, y := range p.Sources {
			feed := s.On[a] && s.On[b] && !s.BadSource[a] && !s.BadSource[b]
			if a != b && feed && reaches(p, s, x.Bus)[y.Bus] && (x.Sync == 0 || y.Sync == 0 || x.Sync != y.Sync) {
				return api.ErrParallel
			}
		}
	}
	for _, rack := range task.Fed {
		feeds := p.Racks[rack].Feeds
		if !live(p, s, feeds[0]) && (feeds[1] == -1 || !live(p, s, feeds[1])) {
			return api.ErrDark
		}
	}
	for _, bus := range task.Crew {
		bad := !s.Earthed[bus]
		for i, x := range p.Sources {
			bad = bad || x.Bus == bus && s.On[i]
		}
		for i, x := range p.Links {
			other := x.A + x.B - bus
			at := x.A == bus || x.B == bus
			bad = bad || at && !slices.Contains(task.Crew, other) && (x.Kind == api.Cable || s.Closed[i] || !s.Locked[i])
		}
		if bad {
			return api.ErrZone
		}
	}
	return api.OK
}

// expectedDo returns what the chapter's words say of a step.
func expectedDo(p api.Plant, s api.State, x api.Step) api.Errno {
	if !isStep(p, x) {
		return api.ErrArg
	}
	if at, to := flag(s, x); *at == to {
		return api.ErrDone
	}
	if (x.Deed == api.Start || x.Deed == api.Stop) && s.BadSource[x.Index] {
		return api.ErrBad
	}
	if x.Deed != api.Open && x.Deed != api.Close {
		return api.OK
	}
	link := p.Links[x.Index]
	open := changed(s, func(s *api.State) { s.Closed[x.Index] = false })
	switch {
	case s.BadLink[x.Index]:
		return api.ErrBad
	case s.Locked[x.Index]:
		return api.ErrLocked
	case link.Kind != api.Switch || s.BadBus[link.A] || s.BadBus[link.B] || reaches(p, open, link.A)[link.B]:
		return api.OK
	case live(p, open, link.A) || live(p, open, link.B):
		return api.ErrArc
	}
	return api.OK
}

// TestAgainstWords compares steps and states with the chapter's words, on random plants.
func TestAgainstWords(t *testing.T) {
	r := rand.New(rand.NewPCG(41, 1))
	seen := map[api.Errno]int{}
	for range 4000 {
		p := randomPlant(r)
		s := randomState(r, t, p)
		task := randomTask(r, p, s)
		want := expectedLegal(p, s, task)
		seen[want]++
		if e := steps.Legal(p, s, task); e != want {
			t.Fatalf("%+v %+v %+v: %d, not %d", p, s, task, e, want)
		}
		for _, x := range append(stepsOf(p), step(api.Deed(r.IntN(10)), from(r, -1, 6))) {
			want := expectedDo(p, s, x)
			seen[want]++
			u, e := steps.Do(p, s, x)
			if e != want || e != api.OK && !zeroState(u) {
				t.Fatalf("%+v %+v %+v: %d, not %d", p, s, x, e, want)
			}
			if at, to := flag(s, firstOf(x, e)); e == api.OK {
				*at = to
				if !sameState(u, s) {
					t.Fatalf("%+v %+v %+v: %+v", p, s, x, u)
				}
				*at = !to
			}
		}
	}
	for _, e := range []api.Errno{api.OK, api.ErrArg, api.ErrDone, api.ErrBad, api.ErrLocked, api.ErrArc, api.ErrEarthed, api.ErrParallel, api.ErrDark, api.ErrZone} {
		if seen[e] < 20 {
			t.Error("hardly tried:", e, seen[e])
		}
	}
}

// firstOf returns a step if it was done, and otherwise one that each plant has.
func firstOf(x api.Step, e api.Errno) api.Step {
	if e == api.OK {
		return x
	}
	return step(api.Earth, 0)
}

// name returns the text of a state.
func name(t *testing.T, p api.Plant, s api.State) string {
	t.Helper()
	text, e := plant.Show(p, s)
	if e != api.OK {
		t.Fatal(e)
	}
	return text
}

// expectedFind plays the search of the chapter's words, round by round, with the programs that lead to the states.
func expectedFind(t *testing.T, p api.Plant, s api.State, task steps.Task, most int) ([]api.Step, []api.State, api.Errno) {
	met := map[string]bool{name(t, p, s): true}
	all, programs := []api.State{s}, [][]api.Step{nil}
	ends := func(u api.State) bool {
		return !slices.ContainsFunc(task.Goal, func(x api.Step) bool { at, to := flag(u, x); return *at != to })
	}
	if ends(s) {
		return nil, nil, api.OK
	}
	for begin, end := 0, 1; begin < end; begin, end = end, len(all) {
		for i := begin; i < end; i++ {
			for _, x := range task.Allowed {
				if expectedDo(p, all[i], x) != api.OK {
					continue
				}
				u := copyState(all[i])
				at, to := flag(u, x)
				*at = to
				if met[name(t, p, u)] || expectedLegal(p, u, task) != api.OK {
					continue
				}
				met[name(t, p, u)] = true
				all, programs = append(all, u), append(programs, append(slices.Clone(programs[i]), x))
				if len(all) > most {
					return nil, nil, api.ErrLarge
				}
				if ends(u) {
					return programs[len(programs)-1], nil, api.OK
				}
			}
		}
	}
	return nil, all, api.ErrNone
}

// TestSearches compares searches on random plants with the chapter's words, and with what follows from them.
func TestSearches(t *testing.T) {
	r := rand.New(rand.NewPCG(42, 2))
	seen := map[api.Errno]int{}
	detours := 0
	for range 20000 {
		p := randomPlant(r)
		s := randomState(r, t, p)
		task := randomTask(r, p, s)
		if steps.Legal(p, s, task) != api.OK {
			continue
		}
		most := []int{1, 2, 4, 8, 100, 20000}[r.IntN(6)]
		l, states, e := steps.Find(p, s, task, most)
		wantL, wantStates, wantE := expectedFind(t, p, s, task, most)
		if e != wantE || !slices.Equal(l, wantL) || !slices.EqualFunc(states, wantStates, sameState) {
			t.Fatalf("%+v %+v %+v %d: %v %v %d, not %v %v %d", p, s, task, most, l, states, e, wantL, wantStates, wantE)
		}
		seen[e]++
		switch e {
		case api.OK:
			if len(l) > len(task.Goal) {
				detours++
			}
			turnedBack(t, p, s, task, l)
			least(t, p, s, task, l)
		case api.ErrNone:
			proves(t, r, p, s, task, states)
		}
	}
	if seen[api.OK] < 200 || seen[api.ErrNone] < 200 || seen[api.ErrLarge] < 200 || detours < 40 {
		t.Error("hardly tried:", seen, detours)
	}
}

// turnedBack checks that a program is verified, and that the reverse of its first steps, however many, is verified and leads back.
func turnedBack(t *testing.T, p api.Plant, s api.State, task steps.Task, l []api.Step) {
	t.Helper()
	for n := range len(l) + 1 {
		m, u, e := steps.Verify(p, s, task, l[:n])
		if m != n || e != api.OK {
			t.Fatalf("%+v %+v %+v %v: %d %d", p, s, task, l[:n], m, e)
		}
		m, back, e := steps.Verify(p, u, task, steps.Reverse(l[:n]))
		if m != n || e != api.OK || !sameState(back, s) {
			t.Fatalf("%+v %+v %+v %v: back %d %d", p, s, task, l[:n], m, e)
		}
	}
}

// least checks that no list of steps before a short program, by length and then by indices in Allowed, is a program for the goal.
func least(t *testing.T, p api.Plant, s api.State, task steps.Task, l []api.Step) {
	t.Helper()
	if len(l) > 4 {
		return
	}
	var try func(list []api.Step, left int) bool
	try = func(list []api.Step, left int) bool {
		if left == 0 {
			_, u, e := steps.Verify(p, s, task, list)
			met := e == api.OK && !slices.ContainsFunc(task.Goal, func(x api.Step) bool { at, to := flag(u, x); return *at != to })
			if met && !slices.Equal(list, l) {
				t.Fatalf("%+v %+v %+v: %v before %v", p, s, task, list, l)
			}
			return met
		}
		return slices.ContainsFunc(task.Allowed, func(x api.Step) bool { return try(append(list[:len(list):len(list)], x), left-1) })
	}
	for n := range len(l) + 1 {
		if try(nil, n) != (n == len(l)) {
			t.Fatalf("%+v %+v %+v: %v is not found", p, s, task, l)
		}
	}
}

// proves checks that states are a proof, in any order, and none without one of them.
func proves(t *testing.T, r *rand.Rand, p api.Plant, s api.State, task steps.Task, states []api.State) {
	t.Helper()
	l := slices.Clone(states)
	r.Shuffle(len(l), func(i, k int) { l[i], l[k] = l[k], l[i] })
	if e := steps.Closed(p, s, task, l); e != api.OK {
		t.Fatalf("%+v %+v %+v: no proof %d", p, s, task, e)
	}
	without := r.IntN(len(l))
	if e := steps.Closed(p, s, task, slices.Delete(l, without, without+1)); e != api.ErrFalse {
		t.Fatalf("%+v %+v %+v: a proof without one %d", p, s, task, e)
	}
}

// TestSafe checks what no state of a random verified program has, by the chapter's words.
func TestSafe(t *testing.T) {
	r := rand.New(rand.NewPCG(43, 3))
	done := 0
	for range 1500 {
		p := randomPlant(r)
		s := randomState(r, t, p)
		task := randomTask(r, p, s)
		if steps.Legal(p, s, task) != api.OK {
			continue
		}
		all := stepsOf(p)
		var l []api.Step
		now := s
		for range 12 {
			x := all[r.IntN(len(all))]
			want := expectedDo(p, now, x)
			u := copyState(now)
			if at, to := flag(u, x); want == api.OK {
				*at = to
				want = expectedLegal(p, u, task)
			}
			n, after, e := steps.Verify(p, s, task, append(slices.Clone(l), x))
			if e != want || e == api.OK && (n != len(l)+1 || !sameState(after, u)) || e != api.OK && (n != len(l) || !zeroState(after)) {
				t.Fatalf("%+v %+v %+v %v %v: %d %+v %d", p, s, task, l, x, n, after, e)
			}
			if e == api.OK {
				l, now = append(l, x), u
				crewIsDead(t, p, now, task)
			}
		}
		turnedBack(t, p, s, task, l)
		done += len(l)
	}
	if done < 2000 {
		t.Error("hardly tried:", done)
	}
}

// crewIsDead checks that no bus of Crew is live.
func crewIsDead(t *testing.T, p api.Plant, s api.State, task steps.Task) {
	t.Helper()
	for _, bus := range task.Crew {
		if live(p, s, bus) || !s.Earthed[bus] {
			t.Fatalf("%+v %+v %+v: bus %d", p, s, task, bus)
		}
	}
}
