package work_test

import (
	"math/rand/v2"
	"slices"
	"testing"

	"switchgear/api"
	"switchgear/work"
)

// TestPromisesAreKept looks at each hour of right plans in which jobs run: all promises are kept, with redundancy also if something fails.
func TestPromisesAreKept(t *testing.T) {
	r := rand.New(rand.NewPCG(12, 6))
	hours, redundant := 0, 0
	for range 4000 {
		y := randomYard(r, 4, 4)
		starts, e := work.Plan(y)
		if e != api.OK {
			continue
		}
		end, e := work.Verify(y, starts)
		if e != api.OK {
			t.Fatalf("%+v: %v %d", y, starts, e)
		}
		for hour := range end {
			load := loadBy(y, starts, hour)
			if len(load) == 0 {
				continue
			}
			hours++
			keepsPromises(t, y, partsBy(y, load))
			if y.Redundant {
				redundant++
			}
		}
		if t.Failed() {
			t.Fatalf("%+v: %v", y, starts)
		}
	}
	if min(hours, redundant) < 500 {
		t.Error("met:", hours, redundant)
	}
}

// keepsPromises tests that promised racks are fed while some parts are out, and if redundancy is kept those that are promised two paths after each single failure.
func keepsPromises(t *testing.T, y work.Yard, parts []api.Part) {
	t.Helper()
	if !fedBy(t, y, parts, 1, 2) {
		t.Error("a rack is dark:", parts)
	}
	for _, x := range wholeParts(y.Plant, y.State) {
		if y.Redundant && !fedBy(t, y, append(slices.Clone(parts), x), 2) {
			t.Error("a rack is dark after a failure:", parts, x)
		}
	}
}

// TestNoPlanEndsEarlier has random right plans: none ends before that of Plan, and none is equal and less.
func TestNoPlanEndsEarlier(t *testing.T) {
	r := rand.New(rand.NewPCG(12, 7))
	met := 0
	for range 1000 {
		y := randomYard(r, 5, 20)
		best, none := work.Plan(y)
		least := 0
		if none == api.OK {
			least, _ = work.Verify(y, best)
		}
		for range 20 {
			starts := make([]int, len(y.Jobs))
			for j, x := range y.Jobs {
				starts[j] = from(r, x.From, x.To-x.Hours)
			}
			end, e := work.Verify(y, starts)
			if e != api.OK {
				continue
			}
			met++
			if none != api.OK || end < least || end == least && slices.Compare(starts, best) < 0 {
				t.Fatalf("%+v: %v ends at %d, %v at %d", y, starts, end, best, least)
			}
		}
	}
	if met < 2000 {
		t.Error("met:", met)
	}
}

// TestWhyNamesAll tests that a set is bearable just if no set of Why is part of it, and that none of those is part of another one.
func TestWhyNamesAll(t *testing.T) {
	r := rand.New(rand.NewPCG(12, 8))
	met := 0
	for range 1000 {
		y := randomYard(r, 5, 4)
		l, e := work.Why(y)
		if e != api.OK {
			t.Fatal(e)
		}
		for set, jobs := range subsets(len(y.Jobs)) {
			has := func(least []int) bool { return bits(least)&^set == 0 }
			bears(t, "random", y, !slices.ContainsFunc(l, has), jobs...)
		}
		for i, a := range l {
			for k, b := range l {
				if i != k && bits(a)&^bits(b) == 0 {
					t.Error("part of another one:", a, b)
				}
			}
		}
		met += len(l)
		if t.Failed() {
			t.Fatalf("%+v: %v", y, l)
		}
	}
	if met < 1000 {
		t.Error("met:", met)
	}
}

// TestMoreIsNoWorse tests what more people, no redundancy and fewer jobs do to a set that is bearable.
func TestMoreIsNoWorse(t *testing.T) {
	r := rand.New(rand.NewPCG(12, 9))
	met := 0
	for range 1000 {
		y := randomYard(r, 5, 4)
		for set, jobs := range subsets(len(y.Jobs)) {
			if ok, _ := work.Bearable(y, jobs); !ok {
				continue
			}
			met++
			eased := with(y, func(y *work.Yard) { y.People, y.Redundant = y.People+1, false })
			bears(t, "eased", eased, true, jobs...)
			for part, fewer := range subsets(len(y.Jobs)) {
				if part&^set == 0 {
					bears(t, "fewer", y, true, fewer...)
				}
			}
		}
		if t.Failed() {
			t.Fatalf("%+v", y)
		}
	}
	if met < 1000 {
		t.Error("met:", met)
	}
}
