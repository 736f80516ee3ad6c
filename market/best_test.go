package market_test

import (
	"math/rand/v2"
	"slices"
	"testing"

	"switchgear/api"
	"switchgear/market"
)

// wantBest calls Best and compares, the proof too.
func wantBest(t *testing.T, name string, d market.Day, want market.Plan) {
	t.Helper()
	p, proof, e := market.Best(d)
	if e != api.OK || !samePlan(p, want) {
		t.Errorf("%s: %+v %d, not %+v", name, p, e, want)
	}
	if !sameLists(proof, tellProof(d)) {
		t.Errorf("%s: the proof is %v, not %v", name, proof, tellProof(d))
	}
	if e := market.Verify(d, p, proof); e != api.OK {
		t.Errorf("%s: Verify answers %d", name, e)
	}
}

// noBest calls Best for a day without a possible plan.
func noBest(t *testing.T, name string, d market.Day) {
	t.Helper()
	if p, proof, e := market.Best(d); e != api.ErrNone || !samePlan(p, market.Plan{}) || len(proof) != 0 {
		t.Error(name, p, proof, e)
	}
}

// TestBestExample has the chapter's first example, with its proof.
func TestBestExample(t *testing.T) {
	d := chapter()
	wantBest(t, "without Peak", d, market.Plan{Charge: []int{2, -2}, Cost: 40})
	// By hour and energy; what was bought before does not matter without Peak.
	costs := [3][3]int{{40, 30, 20}, {60, 30, 0}, {0, 0, 0}}
	_, proof := best(t, d)
	if len(proof) != 1 || len(proof[0]) != 3*3*11 {
		t.Fatal(proof)
	}
	for h, row := range costs {
		for e, want := range row {
			for m := range 11 {
				if n := proof[0][(h*3+e)*11+m]; n != want {
					t.Errorf("V(%d, %d, %d) is %d, not %d", h, e, m, n, want)
				}
			}
		}
	}
	d.Peak = 10
	wantBest(t, "with Peak", d, market.Plan{Charge: []int{2, -2}, Cost: 80})
	_, proof = best(t, d)
	for index, want := range map[int]int{0: 80, 4: 80, 5: 90, 10: 140, 33: 60 + 20, 35: 60 + 20, 36: 60 + 30, 66: 0, 67: 10, 76: 100, 98: 100} {
		if n := proof[0][index]; n != want {
			t.Errorf("number %d is %d, not %d", index, n, want)
		}
	}
	d.Peak = 31
	wantBest(t, "with a Peak that costs more than what charging saves", d, market.Plan{Charge: []int{0, 0}, Cost: 80 + 62})
}

// TestFirst has days with several plans that cost least: the first starts, and then the first charges.
func TestFirst(t *testing.T) {
	d := flat(2, market.Hour{Buy: 5, Sell: 5, Load: 1})
	wantBest(t, "no store", d, market.Plan{Charge: []int{0, 0}, Cost: 10})
	d.Store = market.Store{Energy: 1, Full: 2, Power: 1}
	wantBest(t, "the store gives as soon as it can", d, market.Plan{Charge: []int{-1, 0}, Cost: 5})
	d.Store.End = 1
	wantBest(t, "what was given comes back", d, market.Plan{Charge: []int{-1, 1}, Cost: 10})
	d.Store.End = 2
	wantBest(t, "the store takes as late as it can", d, market.Plan{Charge: []int{0, 1}, Cost: 15})
	free := flat(3, market.Hour{Load: 1})
	free.Store = market.Store{Energy: 2, Full: 4, Power: 3, End: 1}
	wantBest(t, "nothing costs anything", free, market.Plan{Charge: []int{-2, 0, 1}})
	free.Peak = 1
	wantBest(t, "only Peak costs", free, market.Plan{Charge: []int{-1, 0, 0}, Cost: 1})
	free.Store.Power = 1
	wantBest(t, "only Peak costs, with little Power", free, market.Plan{Charge: []int{-1, 0, 0}, Cost: 1})
	free.Store.Energy = 4
	wantBest(t, "only Peak costs, and nothing is bought", free, market.Plan{Charge: []int{-1, -1, -1}})

	d = withJobs(3, market.Job{From: 0, To: 3, Hours: 1, Power: 2})
	wantBest(t, "equal starts", d, market.Plan{Starts: []int{0}, Charge: []int{0, 0, 0}, Cost: 25})
	d.Hours[0].Buy = 6
	wantBest(t, "the first one costs more", d, market.Plan{Starts: []int{1}, Charge: []int{0, 0, 0}, Cost: 26})
	d.Hours[1].Buy = 7
	wantBest(t, "the last one costs least", d, market.Plan{Starts: []int{2}, Charge: []int{0, 0, 0}, Cost: 28})
	// The first starts matter before the first charges: with the second ones the store could give at once.
	d = withJobs(2, market.Job{From: 0, To: 2, Hours: 1, Power: 2})
	d.Hours[0].Buy, d.Hours[0].Load, d.Hours[0].Sun = 5, 0, 1
	d.Hours[1].Buy, d.Hours[1].Load, d.Hours[1].Sun = 5, 0, 1
	d.Store = market.Store{Energy: 1, Full: 1, Power: 1}
	wantBest(t, "starts before charges", d, market.Plan{Starts: []int{0}, Charge: []int{-1, 0}})
	d.Hours[0].Sell, d.Hours[1].Sell = 5, 5
	d.Store = market.Store{Energy: 0, Full: 1, Power: 1}
	wantBest(t, "starts before charges", d, market.Plan{Starts: []int{0}, Charge: []int{0, 0}})
	two := withJobs(3, market.Job{From: 0, To: 3, Hours: 1, Power: 2}, market.Job{From: 1, To: 3, Hours: 1, Power: 2})
	wantBest(t, "two jobs", two, market.Plan{Starts: []int{0, 1}, Charge: []int{0, 0, 0}, Cost: 35})
	two.Peak = 1
	wantBest(t, "two jobs with Peak", two, market.Plan{Starts: []int{0, 1}, Charge: []int{0, 0, 0}, Cost: 38})
	two.Hours[0].Buy = 6
	wantBest(t, "two jobs with Peak, not at once", two, market.Plan{Starts: []int{1, 2}, Charge: []int{0, 0, 0}, Cost: 6 + 30 + 3})
	two.Peak = 0
	wantBest(t, "two jobs without Peak, at once", two, market.Plan{Starts: []int{1, 1}, Charge: []int{0, 0, 0}, Cost: 6 + 30})
}

// TestNone has days without a possible plan, and such that have just one.
func TestNone(t *testing.T) {
	d := flat(2, market.Hour{Buy: 10, Sell: 10, Sun: 40})
	d.Store = market.Store{Energy: 0, Full: 4, Power: 2, End: 4}
	wantBest(t, "End is just reached", d, market.Plan{Charge: []int{2, 2}, Cost: -760})
	d.Store.Power = 1
	noBest(t, "End is not reached, whatever is sold", d)
	d.Store.Energy = 2
	wantBest(t, "End is just reached from 2", d, market.Plan{Charge: []int{1, 1}, Cost: -780})
	d.Store.Energy = 1
	noBest(t, "End is missed by one", d)

	d = chapter()
	d.Most = 2
	wantBest(t, "what is bought is just Most", d, market.Plan{Charge: []int{0, 0}, Cost: 80})
	d.Most = 1
	noBest(t, "one more than Most", d)
	d.Store.Energy = 1
	noBest(t, "one more than Most in the second hour", d)
	d.Store.Energy = 2
	wantBest(t, "the store gives what Most lacks", d, market.Plan{Charge: []int{-1, -1}, Cost: 40})
	d.Store.End = 1
	noBest(t, "the store gives what Most lacks, but has to keep it", d)
	d.Most = 0
	d.Store = market.Store{Energy: 4, Full: 4, Power: 2}
	wantBest(t, "Most 0", d, market.Plan{Charge: []int{-2, -2}})
	d.Store.Energy = 3
	noBest(t, "Most 0, and one is missing", d)

	job := withJobs(3, market.Job{From: 0, To: 3, Hours: 2, Power: 5})
	job.Most = 6
	job.Hours[0].Load = 2
	wantBest(t, "only the last starts are possible", job, market.Plan{Starts: []int{1}, Charge: []int{0, 0, 0}, Cost: 10 + 30 + 30})
	job.Hours[2].Load = 2
	noBest(t, "no starts are possible", job)
}

// TestBestRandom compares with all plans and with the least costs of all that can follow.
func TestBestRandom(t *testing.T) {
	r := rand.New(rand.NewPCG(10, 3))
	met := map[string]int{}
	for range 1500 {
		d := randomDay(r, 4)
		want, is := tellBest(d)
		if !is {
			noBest(t, "random", d)
			met["none"]++
			continue
		}
		wantBest(t, "random", d, want)
		met["some"]++
		if len(tellStarts(d)) > 1 {
			met["starts"]++
		}
		if want.Cost < 0 {
			met["earned"]++
		}
		if slices.Contains(slices.Concat(tellProof(d)...), never) {
			met["never"]++
		}
	}
	for _, name := range []string{"none", "some", "starts", "earned", "never"} {
		if met[name] < 100 {
			t.Error("met:", name, met[name])
		}
	}
}

// great returns a day at all its limits.
func great() market.Day {
	d := flat(24, market.Hour{})
	for hour := range d.Hours {
		d.Hours[hour] = market.Hour{Buy: 1000 - hour*40%7, Sell: hour * 13 % 70, Sun: hour % 11, Load: 10 + hour%5, Carbon: 10000, Water: 10000}
	}
	d.Store = market.Store{Energy: 5, Full: 10, Power: 10, End: 10}
	d.Jobs = []market.Job{{From: 0, To: 24, Hours: 23, Power: 9}, {From: 3, To: 8, Hours: 2, Power: 20}}
	d.Peak = 1000
	return d
}

// TestGreat has days at their limits: what Best finds is proved.
func TestGreat(t *testing.T) {
	d := great()
	p, proof := best(t, d)
	if len(proof) != 8 || len(proof[0]) != 25*11*41 {
		t.Fatal(len(proof), len(proof[0]))
	}
	if e := market.Verify(d, p, proof); e != api.OK {
		t.Error(e)
	}
	for i, n := range proof {
		if n[5*41] < p.Cost {
			t.Error("starts", i, "cost less")
		}
	}
	p.Cost++
	if e := market.Verify(d, p, proof); e != api.ErrFalse {
		t.Error(e)
	}
	// All is bought at the greatest price.
	d = flat(24, market.Hour{Buy: 1000, Load: 30})
	d.Store = market.Store{Full: 10, Power: 10, End: 10}
	d.Peak = 1000
	p, proof = best(t, d)
	if p.Cost != (24*30+10)*1000+31*1000 || market.Verify(d, p, proof) != api.OK {
		t.Error(p)
	}
	// In each hour at most one more is bought, as late as possible.
	if want := append(make([]int, 14), slices.Repeat([]int{1}, 10)...); !slices.Equal(p.Charge, want) {
		t.Error(p.Charge)
	}
}
