package market_test

import (
	"math"
	"math/rand/v2"
	"slices"
	"testing"

	"switchgear/api"
	"switchgear/market"
)

// errorsOf returns the error of each function for a day, with a plan and an offer that should have none of their own.
func errorsOf(d market.Day) map[string]api.Errno {
	p := idle(d)
	o := market.Offer{Power: 1, Hours: 1}
	_, ofStarts := market.Starts(d)
	_, ofCost := market.Cost(d, p)
	_, _, ofBest := market.Best(d)
	_, ofPatterns := market.Patterns(d, o)
	_, _, ofAnswer := market.Answer(d, p, o, nil)
	_, _, ofDeliver := market.Deliver(d, p, o)
	_, _, ofLedger := market.Ledger(d, p)
	ofVerify := market.Verify(d, p, nil)
	if ofVerify == api.ErrArg && ofStarts == api.OK {
		// It is the proof that is missing.
		ofVerify = api.OK
	}
	return map[string]api.Errno{
		"Check": market.Check(d), "Starts": ofStarts, "Cost": ofCost, "Best": ofBest, "Verify": ofVerify,
		"Patterns": ofPatterns, "Answer": ofAnswer, "Deliver": ofDeliver, "Ledger": ofLedger,
	}
}

// every compares the errors of all functions for a day with one that all should be.
func every(t *testing.T, name string, d market.Day, want api.Errno) {
	t.Helper()
	for call, e := range errorsOf(d) {
		if e != want {
			t.Errorf("%s, %s: %d, not %d", call, name, e, want)
		}
	}
}

func TestConstants(t *testing.T) {
	if market.MaxHours != 24 || market.MaxPrice != 1000 || market.MaxEnergy != 40 || market.MaxStore != 10 || market.MaxStarts != 8 || market.Never != 1000000000000000 {
		t.Error("constants")
	}
}

// TestMany has no hour, 24 hours and 25, and no job, 2 jobs and 3.
func TestMany(t *testing.T) {
	short := market.Job{From: 0, To: 1, Hours: 1, Power: 1}
	for n, want := range map[int]api.Errno{0: api.ErrMany, 1: api.OK, 2: api.OK, 23: api.OK, 24: api.OK, 25: api.ErrMany, 26: api.ErrMany, 10000: api.ErrMany} {
		every(t, "hours", flat(n, market.Hour{Buy: 1, Load: 1}), want)
		wrong := api.ErrMany
		if want == api.OK {
			wrong = api.ErrRange
		}
		every(t, "hours that are wrong", flat(n, market.Hour{Buy: -1}), wrong)
	}
	for n, want := range map[int]api.Errno{0: api.OK, 1: api.OK, 2: api.OK, 3: api.ErrMany, 4: api.ErrMany, 10000: api.ErrMany} {
		d := flat(2, market.Hour{Buy: 1, Load: 1})
		d.Jobs = slices.Repeat([]market.Job{short}, n)
		every(t, "jobs", d, want)
		d.Hours = nil
		every(t, "jobs and no hour", d, api.ErrMany)
	}
	// Too many of them matter before what is wrong with them.
	every(t, "nothing", market.Day{}, api.ErrMany)
	every(t, "empty lists", market.Day{Hours: []market.Hour{}, Jobs: []market.Job{}}, api.ErrMany)
	every(t, "jobs that are wrong", market.Day{Hours: flat(1, market.Hour{}).Hours, Jobs: make([]market.Job, 3)}, api.ErrMany)
	every(t, "no hour, and a store that is wrong", market.Day{Store: market.Store{Full: -1}}, api.ErrMany)
}

// bound is a number with its limits.
type bound struct {
	name      string
	low, high int
}

// around returns numbers and the errors that they have.
func (b bound) around() map[int]api.Errno {
	return map[int]api.Errno{
		b.low: api.OK, min(b.low+1, b.high): api.OK, max(b.high-1, b.low): api.OK, b.high: api.OK,
		b.low - 1: api.ErrRange, b.high + 1: api.ErrRange, -1 - b.high: api.ErrRange, b.low - 1000: api.ErrRange,
		math.MinInt: api.ErrRange, math.MinInt + 1: api.ErrRange, math.MaxInt: api.ErrRange, math.MaxInt - 1: api.ErrRange, 1 << 32: api.ErrRange,
	}
}

// TestHourNumbers has each number of an hour at its limits and beyond, for the first hour and for others.
func TestHourNumbers(t *testing.T) {
	sets := map[bound]func(h *market.Hour, n int){
		{"Buy", 0, 1000}:            func(h *market.Hour, n int) { h.Buy = n },
		{"Buy above Sell", 7, 1000}: func(h *market.Hour, n int) { h.Buy, h.Sell = n, 7 },
		{"Sell", 0, 1000}:           func(h *market.Hour, n int) { h.Buy, h.Sell = 1000, n },
		{"Sell below Buy", 0, 7}:    func(h *market.Hour, n int) { h.Buy, h.Sell = 7, n },
		{"Sell at Buy 0", 0, 0}:     func(h *market.Hour, n int) { h.Buy, h.Sell = 0, n },
		{"Sun", 0, 40}:              func(h *market.Hour, n int) { h.Sun = n },
		{"Load", 0, 40}:             func(h *market.Hour, n int) { h.Load = n },
		{"Carbon", 0, 10000}:        func(h *market.Hour, n int) { h.Carbon = n },
		{"Water", 0, 10000}:         func(h *market.Hour, n int) { h.Water = n },
	}
	for b, set := range sets {
		for n, want := range b.around() {
			for hours, where := range map[int][]int{1: {0}, 3: {0, 1, 2}, 24: {0, 23}} {
				for _, hour := range where {
					d := flat(hours, market.Hour{Buy: 5, Load: 1})
					set(&d.Hours[hour], n)
					every(t, b.name, d, want)
				}
			}
		}
	}
}

// TestStoreNumbers has each number of the store, Most and Peak at its limits and beyond.
func TestStoreNumbers(t *testing.T) {
	sets := map[bound]func(d *market.Day, n int){
		{"Full", 0, 10}:                  func(d *market.Day, n int) { d.Store.Full = n },
		{"Full above Energy", 4, 10}:     func(d *market.Day, n int) { d.Store.Full, d.Store.Energy = n, 4 },
		{"Full above End", 3, 10}:        func(d *market.Day, n int) { d.Store = market.Store{Full: n, Energy: 3, End: 3} },
		{"Energy", 0, 10}:                func(d *market.Day, n int) { d.Store.Full, d.Store.Energy = 10, n },
		{"Energy below Full", 0, 6}:      func(d *market.Day, n int) { d.Store.Full, d.Store.Energy = 6, n },
		{"Energy of an empty one", 0, 0}: func(d *market.Day, n int) { d.Store.Energy = n },
		{"Power", 0, 10}:                 func(d *market.Day, n int) { d.Store.Full, d.Store.Power = 3, n },
		{"Power of an empty one", 0, 10}: func(d *market.Day, n int) { d.Store.Power = n },
		{"End", 0, 10}:                   func(d *market.Day, n int) { d.Store = market.Store{Energy: 10, Full: 10, End: n} },
		{"End below Full", 0, 6}:         func(d *market.Day, n int) { d.Store = market.Store{Energy: 6, Full: 6, End: n} },
		{"End of an empty one", 0, 0}:    func(d *market.Day, n int) { d.Store.End = n },
		{"Most", 0, 40}:                  func(d *market.Day, n int) { d.Most, d.Hours[0].Sun, d.Hours[1].Sun = n, 1, 1 },
		{"Peak", 0, 1000}:                func(d *market.Day, n int) { d.Peak = n },
	}
	for b, set := range sets {
		for n, want := range b.around() {
			d := flat(2, market.Hour{Buy: 5, Load: 1})
			set(&d, n)
			every(t, b.name, d, want)
		}
	}
}

// TestJobNumbers has each number of a job at its limits and beyond, for the first job and for the second one.
func TestJobNumbers(t *testing.T) {
	sets := map[bound]func(j *market.Job, n int){
		{"From", 0, 2}:               func(j *market.Job, n int) { *j = market.Job{From: n, To: 5, Hours: 3} },
		{"From, to the end", 0, 4}:   func(j *market.Job, n int) { *j = market.Job{From: n, To: 5, Hours: 1} },
		{"To", 4, 5}:                 func(j *market.Job, n int) { *j = market.Job{From: 2, To: n, Hours: 2} },
		{"To, from the begin", 1, 5}: func(j *market.Job, n int) { *j = market.Job{From: 0, To: n, Hours: 1} },
		{"Hours", 1, 3}:              func(j *market.Job, n int) { *j = market.Job{From: 1, To: 4, Hours: n} },
		{"all Hours", 1, 5}:          func(j *market.Job, n int) { *j = market.Job{From: 0, To: 5, Hours: n} },
		{"Hours in one", 1, 1}:       func(j *market.Job, n int) { *j = market.Job{From: 4, To: 5, Hours: n} },
		{"Power", 0, 20}:             func(j *market.Job, n int) { j.Power = n },
	}
	for b, set := range sets {
		for n, want := range b.around() {
			for _, jobs := range []int{1, 2} {
				d := flat(5, market.Hour{Buy: 5, Load: 1})
				d.Jobs = slices.Repeat([]market.Job{{From: 3, To: 5, Hours: 2}}, jobs)
				set(&d.Jobs[jobs-1], n)
				every(t, b.name, d, want)
				slices.Reverse(d.Jobs)
				every(t, b.name, d, want)
			}
		}
	}
	// Sums that do not fit an int.
	for _, j := range []market.Job{
		{From: math.MaxInt, To: 5, Hours: 1}, {From: 1, To: 5, Hours: math.MaxInt}, {From: math.MaxInt, To: math.MinInt, Hours: math.MaxInt},
		{From: 0, To: math.MinInt, Hours: 1}, {From: math.MinInt, To: math.MaxInt, Hours: math.MinInt}, {From: -1, To: 0, Hours: 1}, {From: 5, To: 5}, {From: 5, To: 5, Hours: 1}, {},
		{From: 3, To: 2, Hours: -1}, {From: 3, To: 2, Hours: 1},
	} {
		d := flat(5, market.Hour{Buy: 5, Load: 1})
		d.Jobs = []market.Job{j}
		every(t, "a job", d, api.ErrRange)
	}
}

// starts calls Starts and compares.
func starts(t *testing.T, name string, d market.Day, want ...[]int) {
	t.Helper()
	if l, e := market.Starts(d); e != api.OK || !sameLists(l, want) {
		t.Errorf("%s: %v %d, not %v", name, l, e, want)
	}
}

// withJobs returns a day of so many hours with jobs.
func withJobs(hours int, jobs ...market.Job) market.Day {
	d := flat(hours, market.Hour{Buy: 5, Load: 1})
	d.Jobs = jobs
	return d
}

func TestStarts(t *testing.T) {
	job := func(from, to, hours int) market.Job { return market.Job{From: from, To: to, Hours: hours, Power: 1} }
	starts(t, "no job", withJobs(3), nil)
	starts(t, "no job", withJobs(3), []int{})
	starts(t, "just as many hours", withJobs(3, job(0, 3, 3)), []int{0})
	starts(t, "just as many hours, later", withJobs(24, job(21, 24, 3)), []int{21})
	starts(t, "one more hour", withJobs(3, job(0, 3, 2)), []int{0}, []int{1})
	starts(t, "two more", withJobs(9, job(2, 5, 1)), []int{2}, []int{3}, []int{4})
	starts(t, "two jobs", withJobs(9, job(2, 4, 1), job(0, 5, 3)), []int{2, 0}, []int{2, 1}, []int{2, 2}, []int{3, 0}, []int{3, 1}, []int{3, 2})
	starts(t, "two jobs, turned", withJobs(9, job(0, 5, 3), job(2, 4, 1)), []int{0, 2}, []int{0, 3}, []int{1, 2}, []int{1, 3}, []int{2, 2}, []int{2, 3})
	starts(t, "the same jobs", withJobs(2, job(0, 2, 1), job(0, 2, 1)), []int{0, 0}, []int{0, 1}, []int{1, 0}, []int{1, 1})
	starts(t, "two jobs without a choice", withJobs(2, job(1, 2, 1), job(0, 2, 2)), []int{1, 0})
	starts(t, "8 lists of one", withJobs(24, job(0, 8, 1)), []int{0}, []int{1}, []int{2}, []int{3}, []int{4}, []int{5}, []int{6}, []int{7})
	starts(t, "8 lists of one, late", withJobs(24, job(15, 24, 2)), []int{15}, []int{16}, []int{17}, []int{18}, []int{19}, []int{20}, []int{21}, []int{22})
}

// TestLarge has 8 lists of starts, and more.
func TestLarge(t *testing.T) {
	for first := 1; first <= 24; first++ {
		for second := 1; second <= 24; second++ {
			d := withJobs(24, market.Job{From: 0, To: first, Hours: 1}, market.Job{From: 0, To: second, Hours: 1})
			want := api.OK
			if first*second > 8 {
				want = api.ErrLarge
			}
			if e := market.Check(d); e != want {
				t.Error(first, second, e)
			}
			if first*second == 8 || first*second == 9 || first*second == 10 {
				every(t, "lists of starts", d, want)
			}
		}
	}
	every(t, "8 lists", withJobs(24, market.Job{To: 24, Hours: 17}), api.OK)
	every(t, "9 lists", withJobs(24, market.Job{To: 24, Hours: 16}), api.ErrLarge)
	every(t, "9 lists without a Power", withJobs(9, market.Job{To: 9, Hours: 1}, market.Job{To: 9, Hours: 9}), api.ErrLarge)
	// A number that is not allowed matters before.
	large := withJobs(24, market.Job{To: 24, Hours: 1}, market.Job{To: 24, Hours: 1, Power: 21})
	every(t, "large, and a job that is wrong", large, api.ErrRange)
	large.Jobs[1].Power = 20
	every(t, "large", large, api.ErrLarge)
	large.Peak = 1001
	every(t, "large, and Peak", large, api.ErrRange)
}

// TestStartsRandom compares with the chapter's words.
func TestStartsRandom(t *testing.T) {
	r := rand.New(rand.NewPCG(10, 1))
	for range 3000 {
		d := randomDay(r, 6)
		starts(t, "random", d, tellStarts(d)...)
	}
}
