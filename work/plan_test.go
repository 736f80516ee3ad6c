package work_test

import (
	"math/rand/v2"
	"slices"
	"testing"

	"switchgear/api"
	"switchgear/work"
)

// plans tests that a plan is found, and that it is right.
func plans(t *testing.T, name string, y work.Yard, end int, want ...int) {
	t.Helper()
	l, e := work.Plan(y)
	if !slices.Equal(l, want) || e != api.OK {
		t.Errorf("%s: %v, error %d, not %v", name, l, e, want)
	}
	verifies(t, name, y, end, api.OK, want...)
}

// never tests that there is no plan.
func never(t *testing.T, name string, y work.Yard) {
	t.Helper()
	if l, e := work.Plan(y); len(l) != 0 || e != api.ErrNone {
		t.Errorf("%s: %v, error %d", name, l, e)
	}
}

// why tests what Why returns.
func why(t *testing.T, name string, y work.Yard, want ...[]int) {
	t.Helper()
	if l, e := work.Why(y); !sameLists(l, want) || e != api.OK {
		t.Errorf("%s: %v, error %d, not %v", name, l, e, want)
	}
}

func TestPlanExamples(t *testing.T) {
	y := example()
	plans(t, "without redundancy", y, 5, 0, 2)
	why(t, "without redundancy", y, []int{0, 1})
	last := with(y, func(y *work.Yard) { y.Jobs[1] = after(within(y.Jobs[1], 0, 4), 0) })
	never(t, "after the first one, until 4", last)
	plans(t, "after the first one, until 5", with(last, func(y *work.Yard) { y.Jobs[1].To = 5 }), 5, 0, 2)
	plans(t, "not after the first one, until 4", with(last, func(y *work.Yard) { y.Jobs[1].After = nil }), 5, 3, 0)
	y.Redundant = true
	never(t, "with redundancy", y)
	why(t, "with redundancy", y, []int{0}, []int{1})
}

func TestPlan(t *testing.T) {
	plans(t, "no job", free(), 0)
	plans(t, "no job, an empty list", with(free(), func(y *work.Yard) { y.Jobs = []work.Job{} }), 0)
	plans(t, "a job", free(within(job(3), 4, 48)), 7, 4)
	plans(t, "a job of 48 hours", free(job(48)), 48, 0)
	plans(t, "all together", free(job(3), job(1), job(2)), 3, 0, 0, 0)
	plans(t, "as early as possible, though the end is late", free(job(1), within(job(2), 30, 40), job(5)), 32, 0, 30, 0)
	plans(t, "one after the other", alone(job(3), job(1), job(2)), 6, 0, 3, 4)
	plans(t, "the windows say in which order", alone(within(job(3), 2, 48), within(job(1), 0, 1), within(job(2), 0, 48)), 6, 3, 0, 1)
	plans(t, "a gap", alone(within(job(2), 1, 48), within(job(2), 2, 4), job(1)), 6, 4, 2, 0)
	plans(t, "the first one must wait", alone(within(job(5), 0, 10), within(job(5), 0, 5)), 10, 5, 0)
	y := free(crew(job(10), 11), crew(job(1), 10), after(crew(job(10), 9), 1))
	y.People = 20
	plans(t, "the first one waits, so that the last one runs beside it", y, 11, 1, 0, 1)
	y.Jobs[0].To = 10
	plans(t, "the first one can't wait", y, 21, 0, 10, 11)
	never(t, "two in a window", alone(within(job(2), 5, 8), within(job(2), 5, 8)))
	plans(t, "two in a window that is an hour longer", alone(within(job(2), 5, 9), within(job(2), 5, 9)), 9, 5, 7)
	never(t, "a day is too short", alone(job(16), job(16), job(17)))
	plans(t, "a day is just as long", alone(job(16), job(16), job(16)), 48, 0, 16, 32)
	plans(t, "a row of jobs", free(job(2), after(job(3), 0), after(job(4), 1), after(job(5), 2, 0), after(job(6), 0)), 14, 0, 2, 5, 9, 2)
	never(t, "a row of jobs that is too long", free(job(20), after(job(20), 0), after(job(9), 1)))
	plans(t, "a row of jobs that is just as long", free(job(20), after(job(20), 0), after(job(8), 1)), 48, 0, 20, 40)
}

// TestEqualEnds has yards with some right plans that have the least end.
func TestEqualEnds(t *testing.T) {
	plans(t, "any order", alone(job(2), job(2), job(2)), 6, 0, 2, 4)
	plans(t, "one may begin at any time", free(job(1), job(5)), 5, 0, 0)
	plans(t, "the second one before the first one would be equal", alone(job(1), job(4)), 5, 0, 1)
	y := free(crew(job(1), 10), crew(job(4), 10), crew(job(1), 10))
	y.People = 20
	plans(t, "two at a time", y, 4, 0, 0, 1)
	y = free(crew(job(2), 20), crew(job(2), 10), crew(job(2), 10))
	y.People = 20
	plans(t, "two of three at a time", y, 4, 0, 2, 2)
	y = free(crew(job(2), 10), crew(job(2), 20), crew(job(2), 10))
	y.People = 20
	plans(t, "the first one and the last one", y, 4, 0, 2, 0)
	plans(t, "a late one, and others that could be late, too", alone(job(2), within(job(1), 20, 48), job(3)), 21, 0, 20, 2)
}

func TestWhy(t *testing.T) {
	why(t, "no job", free())
	why(t, "all are bearable", free(job(1), job(1), job(1)))
	why(t, "no two", alone(job(1), job(1), job(1)), []int{0, 1}, []int{0, 2}, []int{1, 2})
	y := free(crew(job(1), 10), crew(job(1), 20), crew(job(1), 1), crew(job(1), 5), crew(job(1), 5))
	y.People = 19
	why(t, "one alone, and three that are too many", y, []int{1}, []int{0, 3, 4})
	y.People = 15
	why(t, "three that are too many", y, []int{1}, []int{0, 2, 3}, []int{0, 2, 4}, []int{0, 3, 4})
	y.People = 10
	why(t, "all sizes", y, []int{1}, []int{0, 2}, []int{0, 3}, []int{0, 4}, []int{2, 3, 4})
	y.People = 40
	why(t, "all together", y, []int{0, 1, 2, 3, 4})
	y.People = 0
	why(t, "nobody", y, []int{0}, []int{1}, []int{2}, []int{3}, []int{4})
	y = free(job(1), job(1), job(1))
	y.Jobs[2].Parts = []api.Part{bus(4), bus(0)}
	why(t, "a part that is shared", y, []int{0, 2})
}

// planBy returns the best of all right plans, by the chapter's words.
func planBy(t *testing.T, y work.Yard) ([]int, int, api.Errno) {
	t.Helper()
	bearable := bearableBy(t, y)
	var best []int
	least, found := 0, api.ErrNone
	eachPlan(y, func(starts []int) {
		if end, e := verifyBy(y, starts, bearable); e == api.OK && (found != api.OK || end < least) {
			best, least, found = slices.Clone(starts), end, api.OK
		}
	})
	return best, least, found
}

// TestBestOfAllPlans compares with all plans.
func TestBestOfAllPlans(t *testing.T) {
	r := rand.New(rand.NewPCG(12, 4))
	met, late := map[api.Errno]int{}, 0
	for i := range 3000 {
		y := randomYard(r, 5, 4)
		if i%2 == 0 {
			y.Plant, y.State, y.Transfers = free().Plant, free().State, nil
			for j := range y.Jobs {
				y.Jobs[j].Parts = []api.Part{bus(j)}
			}
			y.People = from(r, 20, 40)
		}
		want, end, e := planBy(t, y)
		l, f := work.Plan(y)
		if !slices.Equal(l, want) || e != f {
			t.Fatalf("%+v: %v, error %d, not %v, error %d", y, l, f, want, e)
		}
		met[e]++
		if e == api.OK {
			verifies(t, "random", y, end, api.OK, l...)
		}
		if slices.ContainsFunc(subsets(len(l)), func(s []int) bool { return len(s) == 1 && l[s[0]] > y.Jobs[s[0]].From }) {
			late++
		}
	}
	if min(met[api.OK], met[api.ErrNone], late) < 300 {
		t.Error("met:", met, late)
	}
}

// whyBy returns the least sets that are not bearable, by the chapter's words.
func whyBy(y work.Yard, bearable []bool) [][]int {
	var list [][]int
	for size := range len(y.Jobs) + 1 {
		for _, set := range inOrder(len(y.Jobs)) {
			smaller := func(part []int) bool {
				return bits(part)&^bits(set) == 0 && len(part) < len(set) && !bearable[bits(part)]
			}
			if len(set) == size && !bearable[bits(set)] && !slices.ContainsFunc(subsets(len(y.Jobs)), smaller) {
				list = append(list, set)
			}
		}
	}
	return list
}

// inOrder returns all lists of the numbers below n, in lexicographic order.
func inOrder(n int) [][]int {
	l := subsets(n)
	slices.SortFunc(l, slices.Compare)
	return l
}

// TestAllWhys compares with the chapter's words.
func TestAllWhys(t *testing.T) {
	r := rand.New(rand.NewPCG(12, 5))
	met := map[int]int{}
	for range 1500 {
		y := randomYard(r, 5, 4)
		y.People = from(r, 20, 60)
		want := whyBy(y, bearableBy(t, y))
		why(t, "random", y, want...)
		for _, set := range want {
			met[len(set)]++
		}
		if t.Failed() {
			t.Fatalf("%+v", y)
		}
	}
	if min(met[1], met[2], met[3]) < 100 {
		t.Error("met:", met)
	}
}
