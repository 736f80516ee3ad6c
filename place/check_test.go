package place_test

import (
	"math"
	"testing"

	"switchgear/api"
	"switchgear/place"
)

// errorsOfTask returns the error of each function that asks a task, with a placement that has none for all its jobs.
func errorsOfTask(t place.Task) map[string]api.Errno {
	where := make([]int, len(t.Jobs))
	for i := range where {
		where[i] = -1
	}
	_, ofAllowed := place.Allowed(t, where)
	_, ofBest := place.Best(t)
	_, ofSpare := place.Spare(t, where)
	ofVerify := place.Verify(t, place.Placed{Where: where, Worth: -1})
	if ofVerify == api.ErrFalse {
		// Nothing is worth less than nothing.
		ofVerify = api.OK
	}
	return map[string]api.Errno{"Check": place.Check(t), "Allowed": ofAllowed, "Best": ofBest, "Verify": ofVerify, "Spare": ofSpare}
}

// errorsOfJobs returns the error of each function that asks for jobs alone.
func errorsOfJobs(l []place.Job) map[string]api.Errno {
	_, _, ofSums := place.Sums(l)
	_, ofChance := place.Chance(l, 0)
	_, ofFits := place.Fits(l, rack(0, 0, 0), never)
	_, ofFill := place.Fill(l, 0, never)
	return map[string]api.Errno{"Sums": ofSums, "Chance": ofChance, "Fits": ofFits, "Fill": ofFill}
}

// all compares errors with one that all should be.
func all(t *testing.T, name string, got map[string]api.Errno, want api.Errno) {
	t.Helper()
	for call, e := range got {
		if e != want {
			t.Errorf("%s, %s: %d, not %d", call, name, e, want)
		}
	}
}

func TestConstants(t *testing.T) {
	if place.MaxDraws != 8 || place.MaxPower != 1000 || place.MaxCount != 64 || place.MaxJobs != 8 || place.MaxRacks != 5 || place.MaxNeed != 1000000 || place.MaxCap != 10000 {
		t.Error("constants")
	}
}

// TestMany has no job, 8 jobs and 9, and no rack, 5 racks and 6.
func TestMany(t *testing.T) {
	simple := job(1, 1, 1)
	for n, want := range map[int]api.Errno{0: api.OK, 1: api.OK, 7: api.OK, 8: api.OK, 9: api.ErrMany, 10: api.ErrMany, 1000: api.ErrMany} {
		l := jobs(n, simple)
		all(t, "jobs", errorsOfJobs(l), want)
		all(t, "jobs of a task", errorsOfTask(place.Task{Jobs: l, Racks: racks(1), Most: never}), want)
		all(t, "jobs of a task with all racks", errorsOfTask(place.Task{Jobs: l, Racks: racks(5), Most: never}), want)
		all(t, "jobs, and no rack", errorsOfTask(place.Task{Jobs: l, Most: never}), api.ErrMany)
	}
	for n, want := range map[int]api.Errno{0: api.ErrMany, 1: api.OK, 2: api.OK, 4: api.OK, 5: api.OK, 6: api.ErrMany, 7: api.ErrMany, 1000: api.ErrMany} {
		all(t, "racks", errorsOfTask(place.Task{Racks: racks(n), Most: never}), want)
		all(t, "racks with a job", errorsOfTask(place.Task{Jobs: jobs(1, simple), Racks: racks(n), Most: never}), want)
	}
	// Too many of them matter before what is wrong with them.
	all(t, "jobs that are wrong", errorsOfJobs(make([]place.Job, 9)), api.ErrMany)
	all(t, "jobs that are wrong", errorsOfTask(place.Task{Jobs: make([]place.Job, 9), Racks: racks(1), Most: never}), api.ErrMany)
	all(t, "wrong jobs, no rack", errorsOfTask(place.Task{Jobs: make([]place.Job, 8), Most: never}), api.ErrMany)
	all(t, "wrong racks", errorsOfTask(place.Task{Racks: []place.Rack{{Cap: -1}, {}, {}, {}, {}, {}}, Most: never}), api.ErrMany)
	all(t, "nothing", errorsOfTask(place.Task{}), api.ErrMany)
}

// bound is a number with its limits.
type bound struct {
	name      string
	low, high int
}

// around returns numbers and the errors that they have.
func (b bound) around() map[int]api.Errno {
	return map[int]api.Errno{
		b.low: api.OK, b.low + 1: api.OK, b.high - 1: api.OK, b.high: api.OK,
		b.low - 1: api.ErrRange, b.high + 1: api.ErrRange, -1 - b.high: api.ErrRange,
		math.MinInt: api.ErrRange, math.MinInt + 1: api.ErrRange, math.MaxInt: api.ErrRange, math.MaxInt - 1: api.ErrRange, 1 << 32: api.ErrRange,
	}
}

// TestJobNumbers has each number of a job at its limits and beyond, for the first job and for the last one.
func TestJobNumbers(t *testing.T) {
	sets := map[bound]func(j *place.Job, n int){
		{"cooling", 0, 1000000}:         func(j *place.Job, n int) { j.Need[0] = n },
		{"weight", 0, 1000000}:          func(j *place.Job, n int) { j.Need[1] = n },
		{"ports", 0, 1000000}:           func(j *place.Job, n int) { j.Need[2] = n },
		{"the only power", 0, 1000}:     func(j *place.Job, n int) { j.Draws = []place.Draw{{n, 1}} },
		{"the first power", 0, 499}:     func(j *place.Job, n int) { j.Draws = []place.Draw{{n, 1}, {500, 1}} },
		{"the second power", 501, 1000}: func(j *place.Job, n int) { j.Draws = []place.Draw{{500, 1}, {n, 1}} },
		{"a power between", 201, 799}:   func(j *place.Job, n int) { j.Draws = []place.Draw{{200, 1}, {n, 1}, {800, 1}} },
		{"the only count", 1, 64}:       func(j *place.Job, n int) { j.Draws = []place.Draw{{5, n}} },
		{"the last count", 1, 64}:       func(j *place.Job, n int) { j.Draws = []place.Draw{{5, 1}, {6, n}} },
		{"the group", 0, 100}:           func(j *place.Job, n int) { j.Group = n },
		{"the worth", 0, 1000000}:       func(j *place.Job, n int) { j.Worth = n },
		{"the first of many counts", 1, 64}: func(j *place.Job, n int) {
			j.Draws = []place.Draw{{0, n}, {1, 1}, {2, 1}, {3, 1}, {4, 1}, {5, 1}, {6, 1}, {1000, 1}}
		},
	}
	for b, set := range sets {
		for n, want := range b.around() {
			for _, at := range []int{0, 1, 7} {
				l := jobs(8, job(0, 0, 1))
				set(&l[at], n)
				all(t, b.name, errorsOfJobs(l), want)
				all(t, b.name, errorsOfTask(place.Task{Jobs: l, Racks: racks(1), Most: never}), want)
			}
			l := jobs(1, chapter())
			set(&l[0], n)
			all(t, b.name, errorsOfJobs(l), want)
		}
	}
}

// TestDraws has draws that are valid, and others.
func TestDraws(t *testing.T) {
	many := func(n int) []place.Draw {
		var l []place.Draw
		for i := range n {
			l = append(l, place.Draw{Power: i, Count: 1})
		}
		return l
	}
	for _, c := range []struct {
		name  string
		draws []place.Draw
		want  api.Errno
	}{
		{"none", nil, api.ErrRange},
		{"an empty list", []place.Draw{}, api.ErrRange},
		{"one", many(1), api.OK},
		{"7", many(7), api.OK},
		{"8", many(8), api.OK},
		{"9", many(9), api.ErrRange},
		{"1000", many(1000), api.ErrRange},
		{"8 at their limits", []place.Draw{{0, 64}, {1, 64}, {2, 64}, {3, 64}, {4, 64}, {5, 64}, {999, 64}, {1000, 64}}, api.OK},
		{"equal powers", []place.Draw{{5, 1}, {5, 1}}, api.ErrRange},
		{"equal powers 0", []place.Draw{{0, 1}, {0, 1}}, api.ErrRange},
		{"equal powers at the limit", []place.Draw{{1000, 1}, {1000, 1}}, api.ErrRange},
		{"equal powers at the end", []place.Draw{{1, 1}, {2, 1}, {3, 1}, {3, 1}}, api.ErrRange},
		{"decreasing powers", []place.Draw{{6, 1}, {5, 1}}, api.ErrRange},
		{"powers that increase, but not from one to the next", []place.Draw{{1, 1}, {9, 1}, {8, 1}, {10, 1}}, api.ErrRange},
		{"increasing by one", []place.Draw{{4, 1}, {5, 1}}, api.OK},
		{"count 0", []place.Draw{{4, 0}}, api.ErrRange},
		{"one of the counts is 0", []place.Draw{{4, 1}, {5, 0}, {6, 1}}, api.ErrRange},
		{"counts 1 and 64", []place.Draw{{4, 1}, {5, 64}, {6, 1}}, api.OK},
		{"count 65", []place.Draw{{4, 1}, {5, 65}, {6, 1}}, api.ErrRange},
		{"a negative count that another one makes up for", []place.Draw{{4, -1}, {5, 3}}, api.ErrRange},
	} {
		l := []place.Job{chapter(), {Draws: c.draws}}
		all(t, c.name, errorsOfJobs(l), c.want)
		all(t, c.name, errorsOfJobs(l[1:]), c.want)
		all(t, c.name, errorsOfTask(place.Task{Jobs: l, Racks: racks(2), Most: never}), c.want)
	}
}

// TestRackNumbers has each number of a rack at its limits and beyond, for the first rack and for the last one.
func TestRackNumbers(t *testing.T) {
	sets := map[bound]func(r *place.Rack, n int){
		{"cooling", 0, 1000000}: func(r *place.Rack, n int) { r.Room[0] = n },
		{"weight", 0, 1000000}:  func(r *place.Rack, n int) { r.Room[1] = n },
		{"ports", 0, 1000000}:   func(r *place.Rack, n int) { r.Room[2] = n },
		{"the cap", 0, 10000}:   func(r *place.Rack, n int) { r.Cap = n },
		{"the domain", 0, 100}:  func(r *place.Rack, n int) { r.Domain = n },
	}
	for b, set := range sets {
		for n, want := range b.around() {
			for _, at := range []int{0, 1, 4} {
				l := racks(5)
				set(&l[at], n)
				all(t, b.name, errorsOfTask(place.Task{Jobs: jobs(2, chapter()), Racks: l, Most: never}), want)
				if _, e := place.Fits(jobs(2, chapter()), l[at], tenth); e != want {
					t.Error("Fits", b.name, n, e)
				}
			}
		}
	}
}

// TestMost has fractions that are allowed as the greatest chance, and others.
func TestMost(t *testing.T) {
	for _, c := range []struct {
		n, d int
		want api.Errno
	}{
		{0, 1, api.OK}, {1, 1, api.OK}, {1, 2, api.OK}, {2, 3, api.OK}, {1, 10, api.OK}, {7, 9, api.OK},
		{1, 1000000, api.OK}, {999999, 1000000, api.OK}, {3, 1000000, api.OK}, {1, 999999, api.OK}, {999998, 999999, api.OK},
		{1, 1000001, api.ErrArg}, {1000000, 1000001, api.ErrArg}, {0, 1000001, api.ErrArg},
		{2, 1, api.ErrArg}, {3, 2, api.ErrArg}, {1000001, 1000000, api.ErrArg}, {1000000, 999999, api.ErrArg},
		{-1, 1, api.ErrArg}, {-1, 2, api.ErrArg}, {-1, 1000000, api.ErrArg}, {-3, 1, api.ErrArg},
		{2, 4, api.ErrArg}, {0, 2, api.ErrArg}, {0, 1000000, api.ErrArg}, {2, 2, api.ErrArg}, {3, 3, api.ErrArg}, {1000000, 1000000, api.ErrArg},
		{6, 9, api.ErrArg}, {2, 1000000, api.ErrArg}, {500000, 1000000, api.ErrArg}, {999995, 1000000, api.ErrArg},
		{0, 0, api.ErrArg}, {1, 0, api.ErrArg}, {-1, 0, api.ErrArg}, {0, -1, api.ErrArg}, {1, -1, api.ErrArg}, {-1, -1, api.ErrArg}, {-1, -2, api.ErrArg}, {1, -2, api.ErrArg}, {-2, -1, api.ErrArg},
		{math.MinInt, math.MinInt, api.ErrArg}, {math.MinInt, -1, api.ErrArg}, {math.MinInt, 1, api.ErrArg}, {1, math.MinInt, api.ErrArg}, {0, math.MinInt, api.ErrArg},
		{math.MaxInt, math.MaxInt, api.ErrArg}, {math.MaxInt, 1, api.ErrArg}, {1, math.MaxInt, api.ErrArg}, {0, math.MaxInt, api.ErrArg}, {math.MaxInt - 1, math.MaxInt, api.ErrArg},
	} {
		most := api.Ratio{N: c.n, D: c.d}
		all(t, "most", errorsOfTask(place.Task{Jobs: jobs(2, chapter()), Racks: racks(2), Most: most}), c.want)
		all(t, "most, without jobs", errorsOfTask(place.Task{Racks: racks(1), Most: most}), c.want)
		_, ofFits := place.Fits(jobs(2, chapter()), rack(2, 300, 0), most)
		_, ofEmptyFits := place.Fits(nil, rack(2, 300, 0), most)
		_, ofFill := place.Fill(jobs(2, chapter()), 300, most)
		_, ofEmptyFill := place.Fill(nil, 300, most)
		all(t, "most", map[string]api.Errno{"Fits": ofFits, "Fits of no job": ofEmptyFits, "Fill": ofFill, "Fill of no job": ofEmptyFill}, c.want)
	}
}

// TestManyCombinations has just 2^40 combinations, and more, some of them too many for an int.
func TestManyCombinations(t *testing.T) {
	for _, c := range []struct {
		name string
		l    []place.Job
		want api.Errno
	}{
		{"eight times 2^5", wides(32, 32, 32, 32, 32, 32, 32, 32), api.OK},
		{"five times 2^8", wides(256, 256, 256, 256, 256), api.OK},
		{"2^36 and 2^4", wides(512, 512, 512, 512, 16), api.OK},
		{"2^4 and 2^36", wides(16, 512, 512, 512, 512), api.OK},
		{"2^40 with jobs of one measurement", wides(1, 512, 1, 512, 512, 512, 16, 1), api.OK},
		{"less, and no power of 2", wides(511, 511, 511, 511, 16), api.OK},
		{"2^41", wides(32, 32, 32, 32, 32, 32, 32, 64), api.ErrLarge},
		{"2^41 at first", wides(64, 32, 32, 32, 32, 32, 32, 32), api.ErrLarge},
		{"a little more than 2^40", wides(32, 32, 32, 32, 32, 32, 32, 33), api.ErrLarge},
		{"2^36 and 17", wides(512, 512, 512, 512, 17), api.ErrLarge},
		{"the least number above 2^40 with 257", wides(257, 256, 256, 256, 256), api.ErrLarge},
		{"2^45", wides(512, 512, 512, 512, 512), api.ErrLarge},
		{"2^45, then one measurement each", wides(512, 512, 512, 512, 512, 1, 1, 1), api.ErrLarge},
		{"2^63, which is no int", wides(512, 512, 512, 512, 512, 512, 512), api.ErrLarge},
		{"2^64, which would be 0", wides(512, 512, 512, 512, 512, 512, 512, 2), api.ErrLarge},
		{"2^72, which would be 0", wides(512, 512, 512, 512, 512, 512, 512, 512), api.ErrLarge},
		{"above 2^64, which would be little", wides(512, 512, 512, 512, 512, 512, 512, 3), api.ErrLarge},
		{"more that would be little", wides(511, 511, 511, 511, 511, 511, 511, 511), api.ErrLarge},
	} {
		all(t, c.name, errorsOfJobs(c.l), c.want)
		task := place.Task{Jobs: c.l, Racks: racks(1), Most: always}
		_, ofBest := place.Best(task)
		where := make([]int, len(c.l))
		_, ofAllowed := place.Allowed(task, where)
		_, ofSpare := place.Spare(task, where)
		all(t, c.name, map[string]api.Errno{"Best": ofBest, "Allowed": ofAllowed, "Spare": ofSpare, "Verify": place.Verify(task, place.Placed{Where: where, Worth: len(c.l), Proof: []bool{true}})}, c.want)
		if e := place.Check(task); e != api.OK {
			t.Error("Check", c.name, e)
		}
		product := 1
		for _, j := range c.l {
			measurements := 0
			for _, d := range j.Draws {
				measurements += d.Count
			}
			product *= measurements
		}
		l, n, _ := place.Sums(c.l)
		sum := 0
		for _, d := range l {
			sum += d.Count
		}
		if c.want == api.OK && (n != product || sum != product) || c.want != api.OK && (n != 0 || sum != 0) {
			t.Error("Sums", c.name, n, sum, product)
		}
	}
}
