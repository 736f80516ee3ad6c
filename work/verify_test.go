package work_test

import (
	"math"
	"math/rand/v2"
	"slices"
	"testing"

	"switchgear/api"
	"switchgear/paths"
	"switchgear/plant"
	"switchgear/work"
)

// verifies tests what Verify returns, and whether Spare agrees.
func verifies(t *testing.T, name string, y work.Yard, want int, e api.Errno, starts ...int) {
	t.Helper()
	if n, f := work.Verify(y, starts); n != want || f != e {
		t.Errorf("%s: %v: %d, error %d, not %d, error %d", name, starts, n, f, want, e)
	}
	l, f := work.Spare(y, starts)
	if f != e || e == api.OK && len(l) != want || e != api.OK && len(l) > 0 {
		t.Errorf("%s: %v: Spare: %v, error %d", name, starts, l, f)
	}
}

func TestVerifyExample(t *testing.T) {
	y := example()
	verifies(t, "one after the other", y, 5, api.OK, 0, 2)
	verifies(t, "the other way", y, 5, api.OK, 3, 0)
	verifies(t, "later", y, 10, api.OK, 8, 2)
	verifies(t, "together", y, 0, api.ErrPlan, 0, 0)
	verifies(t, "an hour together", y, 1, api.ErrPlan, 0, 1)
	verifies(t, "an hour together", y, 2, api.ErrPlan, 2, 0)
	verifies(t, "together, later", y, 7, api.ErrPlan, 7, 5)
	y.Redundant = true
	verifies(t, "with redundancy", y, 0, api.ErrPlan, 0, 2)
	verifies(t, "with redundancy, later", y, 4, api.ErrPlan, 5, 4)
}

func TestLengthOfPlans(t *testing.T) {
	y := example()
	for _, starts := range [][]int{nil, {}, {0}, {0, 2, 0}, {-1}, {math.MaxInt, math.MaxInt, math.MaxInt}} {
		verifies(t, "too few or too many", y, 0, api.ErrArg, starts...)
	}
	y.Jobs = nil
	verifies(t, "no job", y, 0, api.OK)
	verifies(t, "no job", y, 0, api.OK, []int{}...)
	verifies(t, "no job, but a start", y, 0, api.ErrArg, 0)
}

func TestWindows(t *testing.T) {
	y := free(within(job(3), 2, 9), within(job(48), 0, 48))
	for start, want := range map[int]api.Errno{
		2: api.OK, 1: api.ErrTime, 0: api.ErrTime, -1: api.ErrTime, 6: api.OK, 7: api.ErrTime, 8: api.ErrTime, 48: api.ErrTime,
		math.MaxInt: api.ErrTime, math.MaxInt - 2: api.ErrTime, math.MinInt: api.ErrTime, math.MinInt + 3: api.ErrTime,
	} {
		end := 0
		if want == api.OK {
			end = 48
		}
		verifies(t, "a window", y, end, want, start, 0)
	}
	verifies(t, "the second one too late", y, 0, api.ErrTime, 2, 1)
	verifies(t, "the second one too early", y, 0, api.ErrTime, 2, -1)
	verifies(t, "both wrong", y, 0, api.ErrTime, 1, 1)
}

func TestAfterOthers(t *testing.T) {
	y := free(job(3), job(2), after(job(4), 0, 1), after(job(1), 2))
	verifies(t, "just when the first one ends", y, 8, api.OK, 0, 1, 3, 7)
	verifies(t, "an hour before", y, 0, api.ErrTime, 0, 1, 2, 6)
	verifies(t, "just when the second one ends", y, 8, api.OK, 0, 1, 3, 7)
	verifies(t, "just when the later one ends", y, 9, api.OK, 0, 2, 4, 8)
	verifies(t, "an hour before it ends", y, 0, api.ErrTime, 0, 2, 3, 8)
	verifies(t, "the last one an hour before", y, 0, api.ErrTime, 0, 1, 3, 6)
	verifies(t, "the last one before all others", y, 0, api.ErrTime, 10, 10, 13, 0)
	verifies(t, "later", y, 48, api.OK, 10, 20, 30, 47)
	verifies(t, "one of After far away", y, 0, api.ErrTime, math.MaxInt, 0, 0, 0)
	y.Jobs[2].After = []int{1, 1, 0, 0, 1, 0, 1, 0}
	verifies(t, "after 8", y, 8, api.OK, 0, 1, 3, 7)
	verifies(t, "after 8, an hour before", y, 0, api.ErrTime, 0, 1, 2, 7)
}

// TestTimeFirst has plans that are too early or too late, and not bearable before that.
func TestTimeFirst(t *testing.T) {
	y := alone(job(2), job(2), within(job(2), 0, 40))
	verifies(t, "not bearable", y, 0, api.ErrPlan, 0, 0, 10)
	verifies(t, "not bearable, and too late", y, 0, api.ErrTime, 0, 0, 39)
	verifies(t, "the first hour of two", y, 3, api.ErrPlan, 2, 20, 3)
	verifies(t, "the first hour of two", y, 3, api.ErrPlan, 20, 3, 3)
	verifies(t, "all at once", y, 20, api.ErrPlan, 20, 20, 20)
}

// TestHoursWithoutJobs has yards in which a rack is dark while no job runs: that does not matter.
func TestHoursWithoutJobs(t *testing.T) {
	p, s := parsed("plant 4\nsource 0 grid 500 0 20\nlink 0 1 breaker 400 10\nlink 1 2 cable 400 10\nlink 2 3 breaker 400 10\nrack 1 -1 10 1\n", 0)
	s.Earthed[2] = true
	y := yardOf(p, s, job(2, bus(2)), job(1, link(1)))
	y.Transfers = []paths.Transfer{{Watch: 1, Open: -1, Close: 0}}
	if dark, _ := paths.Dark(p, s, y.Transfers, nil); len(dark) != 1 {
		t.Fatal("this is not what is tested")
	}
	bears(t, "no job", y, true)
	bears(t, "the earthed bus is out", y, true, 0)
	bears(t, "the cable is out", y, true, 1)
	verifies(t, "hours before and between", y, 10, api.OK, 3, 9)
	verifies(t, "no hour before or between", y, 3, api.OK, 1, 0)
	y.Jobs[1].Parts = []api.Part{link(2)}
	bears(t, "another link is out", y, false, 1)
	verifies(t, "the earthed bus is not out any more", y, 9, api.ErrPlan, 3, 9)
	verifies(t, "the earthed bus is out, but not alone", y, 3, api.ErrPlan, 3, 3)
	y.Jobs = nil
	verifies(t, "no job", y, 0, api.OK)
}

// TestAllPlans compares with the chapter's words.
func TestAllPlans(t *testing.T) {
	r := rand.New(rand.NewPCG(12, 2))
	met := map[api.Errno]int{}
	late := 0
	for range 1500 {
		y := randomYard(r, 4, 4)
		bearable := bearableBy(t, y)
		for range 30 {
			starts := make([]int, len(y.Jobs))
			last := 0
			for j, x := range y.Jobs {
				starts[j] = from(r, max(x.From, last), max(x.To-x.Hours, last))
				if len(x.After) > 0 || r.IntN(3) == 0 {
					last = starts[j] + x.Hours
				}
				if r.IntN(20) == 0 {
					starts[j] = from(r, x.From-2, x.To)
				}
			}
			n, e := verifyBy(y, starts, bearable)
			verifies(t, "random", y, n, e, starts...)
			met[e]++
			if e == api.ErrPlan && n > 0 {
				late++
			}
		}
		if t.Failed() {
			t.Fatalf("%+v", y)
		}
	}
	if min(met[api.OK], met[api.ErrTime], met[api.ErrPlan], late) < 2000 {
		t.Error("met:", met, late)
	}
}

// spares tests what Spare returns.
func spares(t *testing.T, name string, y work.Yard, starts []int, want ...int) {
	t.Helper()
	if l, e := work.Spare(y, starts); !slices.Equal(l, want) || e != api.OK {
		t.Errorf("%s: %v: %v, error %d, not %v", name, starts, l, e, want)
	}
}

func TestSpare(t *testing.T) {
	y := example()
	spares(t, "the example", y, []int{0, 2}, 0, 0, 0, 0, 0)
	spares(t, "hours without a job", y, []int{1, 5}, 1, 0, 0, 1, 1, 0, 0, 0)
	y = meshed()
	y.Jobs = y.Jobs[:4]
	spares(t, "mesh", y, []int{0, 0, 2, 2}, 0, 1, 1)
	spares(t, "mesh", y, []int{2, 1, 1, 2}, 1, 1, 1)
	y.Plant.Racks = append(y.Plant.Racks, api.Rack{Feeds: [2]int{3, 4}, Power: 1, Paths: 1}, api.Rack{Feeds: [2]int{4, 2}, Power: 1, Paths: 2}, api.Rack{Feeds: [2]int{3, -1}, Power: 1})
	spares(t, "mesh with more racks", y, []int{0, 3, 2, 2}, 2, 2, 2, 1)
	spares(t, "mesh with more racks", y, []int{0, 1, 5, 3}, 2, 1, 2, 2, 2, 2)
	y.Plant.Racks = y.Plant.Racks[1:2]
	spares(t, "no rack with two promised paths", y, []int{0, 1, 3, 4}, 0, 0, 0, 0, 0)
	y.Jobs = nil
	spares(t, "no job", y, nil)
}

// TestSpareOfSettledStates has transfers that act, with jobs and without them.
func TestSpareOfSettledStates(t *testing.T) {
	p, s := parsed(chapter, 1, 2)
	y := yardOf(p, s, within(job(1, link(2)), 1, 2), within(job(1, link(1)), 3, 4))
	spares(t, "a breaker is open", y, []int{1, 3}, 0, 0, 0, 0)
	y.Transfers = []paths.Transfer{{Watch: 3, Open: -1, Close: 1}}
	spares(t, "a transfer closes it", y, []int{1, 3}, 1, 1, 1, 0)
}

// spareBy returns what Spare returns: a rack has two disjoint ways if it is fed and nothing is critical for it.
func spareBy(t *testing.T, y work.Yard, starts []int, end int) []int {
	t.Helper()
	list := make([]int, end)
	for hour := range list {
		s, e := paths.After(y.Plant, y.State, y.Transfers, partsBy(y, loadBy(y, starts, hour)))
		if e != api.OK {
			t.Fatal("After:", e)
		}
		fed, _ := plant.Fed(y.Plant, s)
		for rack, x := range y.Plant.Racks {
			critical, _ := paths.Critical(y.Plant, s, rack)
			if x.Paths == 2 && (fed[rack][0] || fed[rack][1]) && len(critical) == 0 {
				list[hour]++
			}
		}
	}
	return list
}

// TestAllSpares compares with what is critical.
func TestAllSpares(t *testing.T) {
	r := rand.New(rand.NewPCG(12, 3))
	met := map[int]int{}
	for range 1500 {
		y := randomYard(r, 4, 4)
		starts, e := work.Plan(y)
		if e != api.OK {
			continue
		}
		end, e := work.Verify(y, starts)
		if e != api.OK {
			t.Fatalf("%+v: %v %d", y, starts, e)
		}
		want := spareBy(t, y, starts, end)
		spares(t, "random", y, starts, want...)
		for _, n := range want {
			met[n]++
		}
		if t.Failed() {
			t.Fatalf("%+v", y)
		}
	}
	if min(met[0], met[1], met[2]) < 50 {
		t.Error("met:", met)
	}
}
