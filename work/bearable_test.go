package work_test

import (
	"math"
	"math/rand/v2"
	"slices"
	"testing"

	"switchgear/api"
	"switchgear/paths"
	"switchgear/work"
)

// bears tests whether a set is bearable.
func bears(t *testing.T, name string, y work.Yard, want bool, jobs ...int) {
	t.Helper()
	if ok, e := work.Bearable(y, jobs); ok != want || e != api.OK {
		t.Errorf("%s: %v is bearable: %v, error %d", name, jobs, ok, e)
	}
}

func TestExampleIsBearable(t *testing.T) {
	y := example()
	bears(t, "the first one", y, true, 0)
	bears(t, "the second one", y, true, 1)
	bears(t, "both", y, false, 0, 1)
	y.Redundant = true
	bears(t, "the first one, with redundancy", y, false, 0)
	bears(t, "the second one, with redundancy", y, false, 1)
	bears(t, "both, with redundancy", y, false, 0, 1)
	bears(t, "none, with redundancy", y, true)
}

func TestMeshIsBearable(t *testing.T) {
	y := meshed()
	for redundant, unbearable := range map[bool][][]int{
		false: {{0, 1, 4}, {0, 1, 2, 3}},
		true:  {{0, 1}, {0, 2}, {0, 4}, {1, 3}, {1, 4}},
	} {
		y.Redundant = redundant
		for set, jobs := range subsets(5) {
			has := func(l []int) bool { return bits(l)&^set == 0 }
			bears(t, "mesh", y, !slices.ContainsFunc(unbearable, has), jobs...)
		}
		if l, e := work.Why(y); !sameLists(l, unbearable) || e != api.OK {
			t.Error(redundant, l, e)
		}
	}
}

func TestSetsOfJobs(t *testing.T) {
	y := meshed()
	bears(t, "not in order", y, true, 3, 2)
	bears(t, "not in order", y, true, 3, 0, 2)
	bears(t, "not in order", y, false, 4, 1, 0)
	bears(t, "the empty set", y, true, []int{}...)
	for _, jobs := range [][]int{{5}, {-1}, {0, 0}, {1, 0, 1}, {0, 1, 2, 3, 4, 0}, {0, 5}, {2, -1}, {64}, {math.MaxInt}, {math.MinInt}, {0, math.MinInt}} {
		if ok, e := work.Bearable(y, jobs); ok || e != api.ErrArg {
			t.Error(jobs, ok, e)
		}
	}
	y.Jobs = nil
	bears(t, "no job", y, true)
	if ok, e := work.Bearable(y, []int{0}); ok || e != api.ErrArg {
		t.Error("a job that there is not", ok, e)
	}
}

func TestPeopleOfSets(t *testing.T) {
	y := free(crew(job(1), 20), crew(job(1), 7), crew(job(1), 1))
	y.People = 27
	bears(t, "they just suffice", y, true, 0, 1)
	bears(t, "one is missing", y, false, 0, 1, 2)
	bears(t, "they suffice", y, true, 1, 2)
	y.People = 28
	bears(t, "all", y, true, 0, 1, 2)
	y.People = 19
	bears(t, "one is missing for one", y, false, 0)
	bears(t, "enough for the others", y, true, 1, 2)
	y.People = 0
	bears(t, "nobody", y, false, 2)
	bears(t, "nobody for no job", y, true)
	if l, e := work.Why(y); !sameLists(l, [][]int{{0}, {1}, {2}}) || e != api.OK {
		t.Error(l, e)
	}
}

func TestSharedParts(t *testing.T) {
	y := free(job(1), job(1), job(1))
	y.Jobs[0].Parts = []api.Part{bus(0), bus(1)}
	y.Jobs[1].Parts = []api.Part{bus(2), bus(0)}
	y.Jobs[2].Parts = []api.Part{bus(3), bus(4)}
	bears(t, "they share a bus", y, false, 0, 1)
	bears(t, "they share none", y, true, 0, 2)
	bears(t, "they share none", y, true, 1, 2)
	bears(t, "two share a bus", y, false, 0, 1, 2)
	p, s := parsed(mesh)
	y = yardOf(p, s, job(1, link(2)), job(1, bus(2)), job(1, source(2)))
	bears(t, "the same index of different kinds", y, true, 0, 1, 2)
}

func TestPromisesOfRacks(t *testing.T) {
	for _, c := range []struct {
		name, rack          string
		redundant, ok, both bool
	}{
		{"no promise", "rack 2 3 100 0\n", false, true, true},
		{"no promise, with redundancy", "rack 2 3 100 0\n", true, true, true},
		{"one path", "rack 2 3 100 1\n", false, true, false},
		{"one path, with redundancy", "rack 2 3 100 1\n", true, true, false},
		{"two paths", "rack 2 3 100 2\n", false, true, false},
		{"two paths, with redundancy", "rack 2 3 100 2\n", true, false, false},
		{"one feed", "rack 2 -1 100 1\n", false, false, false},
		{"one feed, with redundancy", "rack 2 -1 100 1\n", true, false, false},
		{"one feed without a promise, with redundancy", "rack 2 -1 100 0\n", true, true, true},
		{"two racks", "rack 2 3 100 0\nrack 3 2 100 2\n", true, false, false},
	} {
		p, s := parsed("plant 4\nsource 0 grid 500 0 20\nsource 1 grid 500 0 20\nlink 0 2 breaker 400 10\nlink 1 3 breaker 400 10\n" + c.rack)
		y := yardOf(p, s, job(1, link(0)), job(1, link(1)))
		y.Redundant = c.redundant
		bears(t, c.name, y, c.ok, 0)
		bears(t, c.name, y, c.both, 0, 1)
	}
}

// TestTransfersOfSets has jobs that a transfer makes bearable.
func TestTransfersOfSets(t *testing.T) {
	p, s := parsed(chapter+"rack 3 -1 10 1\n", 2)
	y := yardOf(p, s, job(1, source(1)), job(1, link(1)), job(1, link(2)), job(1, bus(3)))
	bears(t, "without a transfer", y, false, 0)
	y.Transfers = []paths.Transfer{relay}
	bears(t, "the grid is out, the transfer acts", y, true, 0)
	bears(t, "what it opens is out", y, false, 1)
	bears(t, "what it would close is out", y, true, 2)
	bears(t, "the grid and what it would close are out", y, false, 0, 2)
	bears(t, "the bus is out", y, false, 3)
	y.Plant.Racks = y.Plant.Racks[:1]
	y.Redundant = true
	bears(t, "the grid is out, the other one is critical", y, false, 0)
	bears(t, "the transfer is out, but not needed", y, true, 2)
}

// TestFailedParts has a state in which parts have failed already.
func TestFailedParts(t *testing.T) {
	y := meshed()
	y.State.BadLink[0] = true
	for j, want := range []bool{true, true, true, true, true} {
		bears(t, "a link has failed", y, want, j)
	}
	bears(t, "it is taken out, and one more", y, true, 0, 1)
	bears(t, "others are taken out", y, false, 1, 4)
	y.Redundant = true
	for j, want := range []bool{true, false, false, true, false} {
		bears(t, "a link has failed, with redundancy", y, want, j)
	}
	y.State.BadLink[1] = true
	bears(t, "both have failed, with redundancy", y, false, 0)
	y.Redundant = false
	bears(t, "both have failed", y, true, 0)
	y.State.BadSource[2] = true
	bears(t, "the rack is dark", y, false, 0)
	bears(t, "the rack is dark, and no job runs", y, true)
}

// earthed returns a yard in which a transfer can't act while the first job runs, since it would make an earthed bus live; if the second one runs, too, that bus stays dead.
func earthed() work.Yard {
	p, s := parsed("plant 3\nsource 0 grid 500 1 20\nsource 1 grid 500 1 20\nlink 0 2 breaker 400 10\nlink 1 2 breaker 400 10\nrack 2 -1 100 1\n", 1)
	s.Earthed[0] = true
	y := yardOf(p, s, job(2, source(0)), job(2, link(0)))
	y.Transfers = []paths.Transfer{{Watch: 2, Open: -1, Close: 1}}
	return y
}

// TestSmallerSets has a set for which people and feeds suffice, though they do not for one of its jobs alone.
func TestSmallerSets(t *testing.T) {
	y := earthed()
	if sufficesBy(t, y, []int{0}) || !sufficesBy(t, y, []int{1}) || !sufficesBy(t, y, []int{0, 1}) {
		t.Fatal("this is not what is tested")
	}
	bears(t, "the transfer can't act", y, false, 0)
	bears(t, "the transfer acts", y, true, 1)
	bears(t, "the transfer would act", y, false, 0, 1)
	y.Jobs = append(y.Jobs, job(1, bus(0)))
	bears(t, "one more", y, true, 1, 2)
	bears(t, "one more", y, false, 0, 1, 2)
	if l, e := work.Why(y); !sameLists(l, [][]int{{0}}) || e != api.OK {
		t.Error(l, e)
	}
}

// TestAllSets compares with the chapter's words.
func TestAllSets(t *testing.T) {
	r := rand.New(rand.NewPCG(12, 1))
	met, smaller := map[bool]int{}, 0
	for range 1500 {
		y := randomYard(r, 5, 5)
		want := bearableBy(t, y)
		for set, jobs := range subsets(len(y.Jobs)) {
			r.Shuffle(len(jobs), func(i, k int) { jobs[i], jobs[k] = jobs[k], jobs[i] })
			if ok, e := work.Bearable(y, jobs); ok != want[set] || e != api.OK {
				t.Fatalf("%+v: %v %v %d", y, jobs, ok, e)
			}
			met[want[set]]++
			if set > 0 && !want[set] && sufficesBy(t, y, jobs) {
				smaller++
			}
		}
	}
	if min(met[true], met[false]) < 2000 || smaller < 5 {
		t.Error("met:", met, smaller)
	}
}
