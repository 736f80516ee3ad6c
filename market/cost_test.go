package market_test

import (
	"math"
	"math/rand/v2"
	"slices"
	"testing"

	"switchgear/api"
	"switchgear/market"
)

// cost calls Cost and compares: what Plan says of its cost does not matter.
func cost(t *testing.T, name string, d market.Day, starts, charge []int, want int) {
	t.Helper()
	for _, said := range []int{want, 0, -1, math.MaxInt, math.MinInt} {
		if n, e := market.Cost(d, market.Plan{Starts: starts, Charge: charge, Cost: said}); e != api.OK || n != want {
			t.Errorf("%s: %d %d, not %d", name, n, e, want)
		}
	}
}

// noCost calls what asks for a plan and compares the errors.
func noCost(t *testing.T, name string, d market.Day, starts, charge []int, want api.Errno) {
	t.Helper()
	p := market.Plan{Starts: starts, Charge: charge}
	o := market.Offer{Power: 1, Hours: 1}
	n, ofCost := market.Cost(d, p)
	rows, sums, ofLedger := market.Ledger(d, p)
	list, ok, ofAnswer := market.Answer(d, p, o, nil)
	all, pattern, ofDeliver := market.Deliver(d, p, o)
	errors := []api.Errno{ofCost, ofLedger, ofAnswer, ofDeliver, market.Verify(d, p, tellProof(d))}
	if !slices.Equal(errors, slices.Repeat([]api.Errno{want}, 5)) {
		t.Errorf("%s: %d, not %d", name, errors, want)
	}
	if n != 0 || len(rows) != 0 || sums != (market.Row{}) || len(list) != 0 || ok || all || len(pattern) != 0 {
		t.Error(name, n, rows, sums, list, ok, all, pattern)
	}
}

// TestCostExample has the plans of the chapter's first example.
func TestCostExample(t *testing.T) {
	d := chapter()
	cost(t, "with a charge of 2", d, nil, []int{2, -2}, 40)
	cost(t, "with a charge of 1", d, nil, []int{1, -1}, 60)
	cost(t, "without charging", d, nil, []int{0, 0}, 80)
	cost(t, "without charging", d, []int{}, []int{0, 0}, 80)
	d.Peak = 10
	cost(t, "with a charge of 2", d, nil, []int{2, -2}, 80)
	cost(t, "with a charge of 1", d, nil, []int{1, -1}, 90)
	cost(t, "without charging", d, nil, []int{0, 0}, 100)
	cost(t, "what is charged is kept", d, nil, []int{1, 1}, 30+90+30)
}

func TestCost(t *testing.T) {
	d := flat(3, market.Hour{Buy: 7, Sell: 3, Sun: 4})
	d.Hours[0].Load, d.Hours[1].Load, d.Hours[2].Load = 6, 4, 1
	cost(t, "a need above 0, one at 0 and one below 0", d, nil, []int{0, 0, 0}, 2*7-3*3)
	d.Peak = 5
	cost(t, "with Peak", d, nil, []int{0, 0, 0}, 2*7-3*3+2*5)
	d.Hours[0].Load = 3
	cost(t, "nothing is bought: no Peak", d, nil, []int{0, 0, 0}, -1*3-3*3)
	d.Store = market.Store{Energy: 5, Full: 10, Power: 6}
	cost(t, "a charge makes a need of 0 one above", d, nil, []int{1, 1, 0}, 1*7-3*3+5)
	cost(t, "a charge makes a need of 0 one below", d, nil, []int{-1, -1, 0}, -2*3-1*3-3*3)
	cost(t, "the greatest purchase is the last one", d, nil, []int{0, -5, 6}, -1*3-5*3+3*7+3*5)
	cost(t, "a small purchase after a great one", d, nil, []int{4, -5, 4}, 3*7-5*3+1*7+3*5)

	d = withJobs(4, market.Job{From: 0, To: 4, Hours: 2, Power: 3}, market.Job{From: 2, To: 4, Hours: 1, Power: 20})
	for hour := range d.Hours {
		d.Hours[hour].Buy = []int{1, 10, 100, 1000}[hour]
	}
	still := []int{0, 0, 0, 0}
	cost(t, "jobs", d, []int{0, 2}, still, 4*1+4*10+21*100+1*1000)
	cost(t, "jobs", d, []int{0, 3}, still, 4*1+4*10+1*100+21*1000)
	cost(t, "jobs", d, []int{1, 2}, still, 1*1+4*10+24*100+1*1000)
	cost(t, "jobs", d, []int{2, 3}, still, 1*1+1*10+4*100+24*1000)
	d.Peak = 2
	cost(t, "jobs at once", d, []int{2, 3}, still, 1*1+1*10+4*100+24*1000+24*2)
	d.Most = 21
	cost(t, "jobs one after the other", d, []int{0, 2}, still, 4*1+4*10+21*100+1*1000+21*2)
	noCost(t, "jobs at once", d, []int{1, 2}, still, api.ErrPlan)
	d.Jobs[0].Power = 0
	cost(t, "a job without Power", d, []int{1, 2}, still, 1*1+1*10+21*100+1*1000+21*2)

	great := flat(24, market.Hour{Buy: 1000, Sell: 1000, Load: 40})
	great.Peak = 1000
	cost(t, "the greatest cost", great, nil, make([]int, 24), 24*40*1000+40*1000)
	for hour := range great.Hours {
		great.Hours[hour].Load, great.Hours[hour].Sun = 0, 40
	}
	cost(t, "the least cost", great, nil, make([]int, 24), -24*40*1000)
}

// TestLists has lists of charges and starts that are none.
func TestLists(t *testing.T) {
	d := withJobs(3, market.Job{From: 0, To: 3, Hours: 2, Power: 1}, market.Job{From: 1, To: 3, Hours: 1, Power: 1})
	still := []int{0, 0, 0}
	for _, s := range [][]int{{0, 1}, {0, 2}, {1, 1}, {1, 2}} {
		if _, e := market.Cost(d, market.Plan{Starts: s, Charge: still}); e != api.OK {
			t.Error(s, e)
		}
	}
	for _, s := range [][]int{nil, {}, {0}, {1}, {0, 0}, {2, 1}, {0, 3}, {-1, 1}, {1, -1}, {0, 1, 0}, {0, 1, 1}, {1, 0}, {math.MinInt, 1}, {0, math.MaxInt}, {2, 0}} {
		noCost(t, "starts", d, s, still, api.ErrArg)
		noCost(t, "starts, and charges that are not possible", d, s, []int{9, 9, 9}, api.ErrArg)
	}
	for _, c := range [][]int{nil, {}, {0}, {0, 0}, {0, 0, 0, 0}, make([]int, 24), make([]int, 25)} {
		noCost(t, "charges", d, []int{0, 1}, c, api.ErrArg)
	}
	noCost(t, "charges that are too short and not possible", d, []int{0, 1}, []int{9, 9}, api.ErrArg)
	noCost(t, "charges that are too long and not possible", d, []int{0, 1}, []int{9, 9, 9, 9}, api.ErrArg)
	noCost(t, "starts of no job", flat(1, market.Hour{}), []int{0}, []int{0}, api.ErrArg)
	noCost(t, "no starts, no charges", d, nil, nil, api.ErrArg)
}

// TestPossible has plans that are just possible, and others that just are not.
func TestPossible(t *testing.T) {
	// Nothing has a price, so that all possible plans cost 0.
	d := flat(3, market.Hour{Sun: 10, Load: 10})
	d.Store = market.Store{Energy: 4, Full: 8, Power: 3}
	tight := copied(d)
	tight.Most, tight.Hours[1].Load = 2, 11
	sunny := copied(tight)
	sunny.Most, sunny.Hours[0].Load = 0, 9
	still := copied(d)
	still.Store.Power = 0
	small := copied(d)
	small.Store = market.Store{Power: 10}
	end := copied(d)
	end.Store.End = 5
	full := copied(d)
	full.Store.End = 8
	for _, c := range []struct {
		name   string
		d      market.Day
		charge []int
		want   api.Errno
	}{
		{"nothing", d, []int{0, 0, 0}, api.OK},
		{"a charge of Power", d, []int{3, -3, 3}, api.OK},
		{"a charge of Power and one more", d, []int{4, -3, 0}, api.ErrPlan},
		{"giving Power", d, []int{-3, 3, -3}, api.OK},
		{"giving Power and one more", d, []int{-4, 3, 0}, api.ErrPlan},
		{"one more in the last hour", d, []int{0, 0, 4}, api.ErrPlan},
		{"giving one more in the last hour", d, []int{0, 0, -4}, api.ErrPlan},
		{"to Full", d, []int{3, 1, 0}, api.OK},
		{"beyond Full", d, []int{3, 2, 0}, api.ErrPlan},
		{"beyond Full and back", d, []int{3, 2, -3}, api.ErrPlan},
		{"beyond Full at the end", d, []int{3, 1, 1}, api.ErrPlan},
		{"to 0", d, []int{-3, -1, 0}, api.OK},
		{"to 0 at the end", d, []int{-3, 0, -1}, api.OK},
		{"below 0", d, []int{-3, -2, 0}, api.ErrPlan},
		{"below 0 and back", d, []int{-3, -2, 3}, api.ErrPlan},
		{"below 0 at the end", d, []int{-3, -1, -1}, api.ErrPlan},
		{"just Most", tight, []int{2, 1, 0}, api.OK},
		{"one more than Most", tight, []int{3, 1, 0}, api.ErrPlan},
		{"one more than Most, with a Load", tight, []int{0, 2, 0}, api.ErrPlan},
		{"one more than Most at the end", tight, []int{0, 0, 3}, api.ErrPlan},
		{"Most 0, with what the sun makes", sunny, []int{1, -1, 0}, api.OK},
		{"Most 0, and selling", sunny, []int{0, -2, -1}, api.OK},
		{"Most 0, and one is bought", sunny, []int{2, -1, 0}, api.ErrPlan},
		{"Most 0, and a Load", sunny, []int{1, 0, 0}, api.ErrPlan},
		{"no Power", still, []int{0, 0, 0}, api.OK},
		{"no Power, and a charge", still, []int{0, 1, 0}, api.ErrPlan},
		{"no Power, and giving", still, []int{0, -1, 0}, api.ErrPlan},
		{"a store that holds nothing", small, []int{0, 0, 0}, api.OK},
		{"a store that holds nothing, and a charge", small, []int{1, -1, 0}, api.ErrPlan},
		{"End just reached", end, []int{0, 0, 1}, api.OK},
		{"End just reached, after more", end, []int{3, 1, -3}, api.OK},
		{"more than End", end, []int{0, 0, 3}, api.OK},
		{"End missed by one", end, []int{0, 0, 0}, api.ErrPlan},
		{"End missed by one, after more", end, []int{3, 0, -3}, api.ErrPlan},
		{"End at Full", full, []int{2, 2, 0}, api.OK},
		{"End at Full, missed by one", full, []int{3, 0, 0}, api.ErrPlan},
		{"charges that do not fit", d, []int{math.MaxInt, math.MinInt, 0}, api.ErrPlan},
		{"charges that do not fit", d, []int{math.MinInt, math.MinInt, 0}, api.ErrPlan},
		{"charges that do not fit", d, []int{0, math.MaxInt, math.MaxInt}, api.ErrPlan},
	} {
		if c.want == api.OK {
			cost(t, c.name, c.d, nil, c.charge, 0)
		} else {
			noCost(t, c.name, c.d, nil, c.charge, c.want)
		}
	}
}

// TestCostRandom compares with the chapter's words.
func TestCostRandom(t *testing.T) {
	r := rand.New(rand.NewPCG(10, 2))
	met := map[bool]int{}
	for range 6000 {
		d := randomDay(r, 5)
		p := randomPlan(r, d)
		is := tellPossible(d, p.Starts, p.Charge)
		met[is]++
		if is {
			cost(t, "random", d, p.Starts, p.Charge, p.Cost)
		} else if n, e := market.Cost(d, p); e != api.ErrPlan || n != 0 {
			t.Errorf("%+v %+v: %d %d", d, p, n, e)
		}
	}
	if min(met[true], met[false]) < 1000 {
		t.Error("met:", met)
	}
}
