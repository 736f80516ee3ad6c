package work_test

import (
	"math"
	"slices"
	"testing"

	"switchgear/api"
	"switchgear/paths"
	"switchgear/work"
)

// checks tests what all functions return for a yard, of which Check returns this: with no jobs for Bearable, and starts at From.
func checks(t *testing.T, name string, y work.Yard, want api.Errno) {
	t.Helper()
	if e := work.Check(y); e != want {
		t.Errorf("%s: Check: %d, not %d", name, e, want)
	}
	if _, e := work.Bearable(y, nil); e != want {
		t.Errorf("%s: Bearable: %d, not %d", name, e, want)
	}
	if _, e := work.Why(y); e != want {
		t.Errorf("%s: Why: %d, not %d", name, e, want)
	}
	var starts []int
	for _, x := range y.Jobs {
		starts = append(starts, x.From)
	}
	_, verify := work.Verify(y, starts)
	_, plan := work.Plan(y)
	_, spare := work.Spare(y, starts)
	for name, e := range map[string]api.Errno{"Verify": verify, "Plan": plan, "Spare": spare} {
		own := want == api.OK && slices.Contains([]api.Errno{api.ErrTime, api.ErrPlan, api.ErrNone}, e)
		if e != want && !own {
			t.Errorf("%s: %d, not %d", name, e, want)
		}
	}
}

func TestJobs(t *testing.T) {
	p, s := parsed(chapter, 2)
	jobs := func(l ...work.Job) work.Yard { return yardOf(p, s, l...) }
	one := job(1, link(0))
	nine := []api.Part{bus(0), bus(1), bus(2), bus(3), source(0), source(1), link(0), link(1), link(2)}
	people := func(n int) work.Job { return crew(one, n) }
	for _, c := range []struct {
		name string
		y    work.Yard
		want api.Errno
	}{
		{"no job", jobs(), api.OK},
		{"an empty list of jobs", jobs([]work.Job{}...), api.OK},
		{"a job", jobs(one), api.OK},
		{"5 jobs", jobs(one, one, one, one, one), api.OK},
		{"6 jobs", jobs(one, one, one, one, one, one), api.ErrMany},
		{"6 jobs, all of them wrong", jobs(make([]work.Job, 6)...), api.ErrMany},
		{"a job that is zero", jobs(work.Job{}), api.ErrPlan},
		{"no part", jobs(job(1)), api.ErrPlan},
		{"an empty list of parts", jobs(job(1, []api.Part{}...)), api.ErrPlan},
		{"8 parts", jobs(job(1, nine[:8]...)), api.OK},
		{"9 parts", jobs(job(1, nine...)), api.ErrPlan},
		{"a part twice", jobs(job(1, link(0), link(0))), api.ErrPlan},
		{"a part twice, with others between", jobs(job(1, link(0), bus(0), source(0), link(0))), api.ErrPlan},
		{"parts with the same index", jobs(job(1, link(0), bus(0), source(0))), api.OK},
		{"the same part of two jobs", jobs(one, one), api.OK},
		{"0 hours", jobs(job(0, link(0))), api.ErrPlan},
		{"less", jobs(job(-1, link(0))), api.ErrPlan},
		{"48 hours", jobs(job(48, link(0))), api.OK},
		{"49 hours", jobs(job(49, link(0))), api.ErrPlan},
		{"49 hours in a window that is long enough", jobs(within(job(49, link(0)), 0, 49)), api.ErrPlan},
		{"the most hours", jobs(job(math.MaxInt, link(0))), api.ErrPlan},
		{"the least hours", jobs(job(math.MinInt, link(0))), api.ErrPlan},
		{"from hour 0", jobs(within(one, 0, 1)), api.OK},
		{"from before hour 0", jobs(within(one, -1, 1)), api.ErrPlan},
		{"to hour 48", jobs(within(one, 47, 48)), api.OK},
		{"to hour 49", jobs(within(one, 0, 49)), api.ErrPlan},
		{"from hour 48 to 49", jobs(within(one, 48, 49)), api.ErrPlan},
		{"a window as long as it", jobs(within(job(5, link(0)), 7, 12)), api.OK},
		{"a window that is an hour shorter", jobs(within(job(5, link(0)), 8, 12)), api.ErrPlan},
		{"a window that ends an hour earlier", jobs(within(job(5, link(0)), 7, 11)), api.ErrPlan},
		{"a window without an hour", jobs(within(one, 3, 3)), api.ErrPlan},
		{"a window that ends before it begins", jobs(within(one, 5, 2)), api.ErrPlan},
		{"a window below 0", jobs(within(one, -10, -5)), api.ErrPlan},
		{"far away", jobs(within(one, math.MaxInt, 48)), api.ErrPlan},
		{"far away, and more hours", jobs(within(job(48, link(0)), math.MaxInt-47, math.MaxInt)), api.ErrPlan},
		{"to never", jobs(within(one, 0, math.MinInt)), api.ErrPlan},
		{"from and to never", jobs(within(one, math.MinInt, math.MinInt)), api.ErrPlan},
		{"from always", jobs(within(one, math.MinInt, 48)), api.ErrPlan},
		{"nobody", jobs(people(0)), api.ErrPlan},
		{"less people", jobs(people(-1)), api.ErrPlan},
		{"one", jobs(people(1)), api.OK},
		{"20 people", jobs(people(20)), api.OK},
		{"21 people", jobs(people(21)), api.ErrPlan},
		{"after the one before", jobs(one, after(one, 0)), api.OK},
		{"after all before", jobs(one, one, one, after(one, 2, 0, 1)), api.OK},
		{"after a later one", jobs(after(one, 1), one), api.ErrPlan},
		{"after itself", jobs(one, after(one, 1)), api.ErrPlan},
		{"the first one after itself", jobs(after(one, 0)), api.ErrPlan},
		{"after one below 0", jobs(one, after(one, -1)), api.ErrPlan},
		{"after the one before and a later one", jobs(one, after(one, 0, 2), one), api.ErrPlan},
		{"after one that there is not", jobs(one, after(one, 5)), api.ErrPlan},
		{"after one that there can't be", jobs(one, after(one, math.MaxInt)), api.ErrPlan},
		{"after one that there can't be", jobs(one, after(one, math.MinInt)), api.ErrPlan},
		{"after 8", jobs(one, after(one, 0, 0, 0, 0, 0, 0, 0, 0)), api.OK},
		{"after 9", jobs(one, after(one, 0, 0, 0, 0, 0, 0, 0, 0, 0)), api.ErrPlan},
		{"after an empty list", jobs(after(one, []int{}...)), api.OK},
	} {
		checks(t, c.name, c.y, c.want)
	}
}

func TestPartsOfJobs(t *testing.T) {
	p, s := parsed(chapter, 2)
	none := []api.Part{{}, bus(-1), bus(4), source(-1), source(2), link(-1), link(3), {Kind: 4}, {Kind: -1, Index: 1}, bus(math.MaxInt), link(math.MinInt)}
	for _, x := range none {
		checks(t, "a part that there is not", yardOf(p, s, job(1, x)), api.ErrPart)
		checks(t, "and others", yardOf(p, s, job(1, bus(1), source(0), x)), api.ErrPart)
		checks(t, "of the last job", yardOf(p, s, job(1, link(0)), job(1, link(1)), job(1, x)), api.ErrPart)
		checks(t, "of a job that is wrong", yardOf(p, s, job(0, x)), api.ErrPlan)
		checks(t, "twice", yardOf(p, s, job(1, x, x)), api.ErrPlan)
		checks(t, "of a job before one that is wrong", yardOf(p, s, job(1, x), job(0, link(0))), api.ErrPart)
		checks(t, "of a job after one that is wrong", yardOf(p, s, job(0, link(0)), job(1, x)), api.ErrPlan)
	}
	for _, x := range []api.Part{bus(0), bus(3), source(0), source(1), link(0), link(2)} {
		checks(t, "a part", yardOf(p, s, job(1, x)), api.OK)
		s.BadBus[0], s.BadSource[1], s.BadLink[2] = true, true, true
		checks(t, "a part, and some have failed", yardOf(p, s, job(1, x)), api.OK)
	}
}

func TestPeopleOfYards(t *testing.T) {
	for people, want := range map[int]api.Errno{0: api.OK, 1: api.OK, 1000: api.OK, 1001: api.ErrArg, -1: api.ErrArg, math.MaxInt: api.ErrArg, math.MinInt: api.ErrArg} {
		y := example()
		y.People = people
		checks(t, "people", y, want)
		y.Jobs = nil
		checks(t, "people without a job", y, want)
	}
}

func TestPlantsStatesAndTransfers(t *testing.T) {
	ok := example()
	for _, c := range []struct {
		name   string
		change func(y *work.Yard)
		want   api.Errno
	}{
		{"no bus", func(y *work.Yard) { y.Plant.Buses = 0 }, api.ErrBus},
		{"a source", func(y *work.Yard) { y.Plant.Sources[1].Power = 0 }, api.ErrSource},
		{"a link", func(y *work.Yard) { y.Plant.Links[1].A = 3 }, api.ErrLink},
		{"a rack", func(y *work.Yard) { y.Plant.Racks[0].Paths = 3 }, api.ErrRack},
		{"a state without anything", func(y *work.Yard) { y.State = api.State{} }, api.ErrState},
		{"a state with one link more", func(y *work.Yard) { y.State.Closed = append(y.State.Closed, true) }, api.ErrState},
		{"an open cable", func(y *work.Yard) { y.Plant.Links[2].Kind = api.Cable }, api.ErrState},
		{"16 transfers", func(y *work.Yard) { y.Transfers = slices.Repeat([]paths.Transfer{relay}, 16) }, api.OK},
		{"17 transfers", func(y *work.Yard) { y.Transfers = slices.Repeat([]paths.Transfer{relay}, 17) }, api.ErrArg},
		{"a transfer of no bus", func(y *work.Yard) { y.Transfers = []paths.Transfer{relay, {Watch: 4, Open: 1, Close: 2}} }, api.ErrArg},
		{"a transfer that opens what it closes", func(y *work.Yard) { y.Transfers = []paths.Transfer{{Watch: 3, Open: 1, Close: 1}} }, api.ErrArg},
		{"no transfer", func(y *work.Yard) { y.Transfers = []paths.Transfer{} }, api.OK},
	} {
		checks(t, c.name, with(ok, c.change), c.want)
	}
	checks(t, "nothing", work.Yard{}, api.ErrBus)
}
