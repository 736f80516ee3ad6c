package market_test

import (
	"math"
	"math/rand/v2"
	"slices"
	"testing"

	"switchgear/api"
	"switchgear/market"
)

// verify calls Verify and compares, with the chapter's words too.
func verify(t *testing.T, name string, d market.Day, p market.Plan, proof [][]int, want api.Errno) {
	t.Helper()
	if e := market.Verify(d, p, proof); e != want {
		t.Errorf("%s: %d, not %d", name, e, want)
	}
	if e := tellVerify(d, p, proof); e != want {
		t.Errorf("%s: the chapter's words say %d, not %d", name, e, want)
	}
}

// changed returns a proof in which one number is another one.
func changed(proof [][]int, table, index, n int) [][]int {
	proof = copiedLists(proof)
	proof[table][index] = n
	return proof
}

func TestVerifyPlans(t *testing.T) {
	d := chapter()
	p, proof := best(t, d)
	verify(t, "the best plan", d, p, proof, api.OK)
	p.Cost = 41
	verify(t, "a cost that is too great", d, p, proof, api.ErrFalse)
	p.Cost = 39
	verify(t, "a cost that is too small", d, p, proof, api.ErrFalse)
	verify(t, "another plan", d, market.Plan{Charge: []int{1, -1}, Cost: 60}, proof, api.ErrFalse)
	verify(t, "another plan with the cost of the best one", d, market.Plan{Charge: []int{1, -1}, Cost: 40}, proof, api.ErrFalse)
	verify(t, "a plan that is not possible", d, market.Plan{Charge: []int{2, -3}, Cost: 40}, proof, api.ErrPlan)
	verify(t, "charges that are too short", d, market.Plan{Charge: []int{2}, Cost: 40}, proof, api.ErrArg)
	verify(t, "a plan that is not possible, no proof", d, market.Plan{Charge: []int{2, -3}, Cost: 40}, nil, api.ErrPlan)
	verify(t, "a cost that is wrong, no proof", d, market.Plan{Charge: []int{2, -2}, Cost: 39}, nil, api.ErrArg)

	// Several plans with the least cost: each one is right.
	d = withJobs(3, market.Job{From: 0, To: 3, Hours: 1, Power: 2})
	_, proof = best(t, d)
	for start := range 3 {
		verify(t, "equal starts", d, market.Plan{Starts: []int{start}, Charge: []int{0, 0, 0}, Cost: 25}, proof, api.OK)
	}
	verify(t, "starts that are none", d, market.Plan{Starts: []int{3}, Charge: []int{0, 0, 0}, Cost: 25}, proof, api.ErrArg)
	verify(t, "no starts", d, market.Plan{Charge: []int{0, 0, 0}, Cost: 25}, proof, api.ErrArg)
	d.Hours[0].Buy = 6
	p, proof = best(t, d)
	verify(t, "the second starts", d, p, proof, api.OK)
	verify(t, "the first starts cost more", d, market.Plan{Starts: []int{0}, Charge: []int{0, 0, 0}, Cost: 28}, proof, api.ErrFalse)
	verify(t, "the last starts", d, market.Plan{Starts: []int{2}, Charge: []int{0, 0, 0}, Cost: 26}, proof, api.OK)
}

// TestProofSizes has too few or too many tables or numbers.
func TestProofSizes(t *testing.T) {
	d := withJobs(2, market.Job{From: 0, To: 2, Hours: 1, Power: 2})
	d.Most = 4
	d.Store = market.Store{Full: 1, Power: 1}
	p, proof := best(t, d)
	verify(t, "as it is", d, p, proof, api.OK)
	one := proof[0]
	for _, x := range [][][]int{
		nil, {}, proof[:1], {one, one, one}, append(slices.Clone(proof), nil), {nil, one}, {one, nil}, {nil, nil}, {{}, {}},
		{one[:29], one}, {one, one[:29]}, {append(slices.Clone(one), 0), one}, {one, append(slices.Clone(one), 0)},
		{one, append(slices.Clone(one), one...)}, {slices.Concat(one, one)}, {one[:15], one[:15]}, {append(slices.Clone(one), 0), one[:29]},
		make([][]int, 100),
	} {
		verify(t, "another size", d, p, x, api.ErrArg)
	}
	// What is in it matters later.
	verify(t, "a number that is too great, and another size", d, p, [][]int{slices.Repeat([]int{math.MaxInt}, 30), one[:29]}, api.ErrArg)
	verify(t, "another size of all numbers", d, p, [][]int{slices.Repeat([]int{-never}, 31), slices.Repeat([]int{-never}, 31)}, api.ErrArg)
	verify(t, "two tables where one is enough", chapter(), market.Plan{Charge: []int{2, -2}, Cost: 40}, slices.Repeat(tellProof(chapter()), 2), api.ErrArg)
	// The tables stand in the order of the starts.
	d.Hours[0].Buy = 9
	p, proof = best(t, d)
	verify(t, "in order", d, p, proof, api.OK)
	verify(t, "the other way round", d, p, [][]int{proof[1], proof[0]}, api.ErrFalse)
}

// TestNumbersTooGreat changes each number of a proof: just right and one too great.
func TestNumbersTooGreat(t *testing.T) {
	peak := chapter()
	peak.Peak, peak.Most = 10, 4
	end := chapter()
	end.Store.End, end.Store.Energy, end.Most = 2, 1, 4
	sold := chapter()
	sold.Hours[1] = market.Hour{Buy: 30, Sell: 20, Sun: 5}
	sold.Most, sold.Store = 3, market.Store{Energy: 1, Full: 3, Power: 1, End: 2}
	two := withJobs(2, market.Job{From: 0, To: 2, Hours: 1, Power: 2})
	two.Most, two.Store = 4, market.Store{Full: 1, Power: 1}
	for _, d := range []market.Day{peak, end, sold, two} {
		p, proof := best(t, d)
		for table, l := range proof {
			for index, n := range l {
				if n == never {
					// Only numbers beyond Never are greater.
					continue
				}
				verify(t, "just right", d, p, changed(proof, table, index, n), api.OK)
				verify(t, "one too great", d, p, changed(proof, table, index, n+1), api.ErrFalse)
				verify(t, "Never", d, p, changed(proof, table, index, never), api.ErrFalse)
			}
		}
		for index := range proof[0] {
			verify(t, "beyond Never", d, p, changed(proof, 0, index, never+1), api.ErrFalse)
			verify(t, "far beyond Never", d, p, changed(proof, 0, index, math.MaxInt), api.ErrFalse)
			verify(t, "beyond Never on the other side", d, p, changed(proof, 0, index, -never-1), api.ErrFalse)
			verify(t, "far beyond Never on the other side", d, p, changed(proof, 0, index, math.MinInt), api.ErrFalse)
		}
	}
}

// lowered returns a right proof with numbers that are smaller than those of the least costs in some states: by says by how much.
func lowered(d market.Day, by func() int) [][]int {
	var proof [][]int
	for _, starts := range tellStarts(d) {
		table := make([]int, size(d))
		eachState(d, func(h, e, m int) {
			table[at(d, h, e, m)] = max(tellLimit(d, starts, table, h, e, m)-by(), -never)
		})
		proof = append(proof, table)
	}
	return proof
}

func TestSmallerNumbers(t *testing.T) {
	d := chapter()
	p, proof := best(t, d)
	verify(t, "a number that no cheapest way meets", d, p, changed(proof, 0, at(d, 1, 1, 3), 29), api.OK)
	// The ways from energy 1 or 2 meet it then: 20 + 9 is less than 30.
	verify(t, "it is much less", d, p, changed(proof, 0, at(d, 1, 1, 3), 9), api.ErrFalse)
	// After a purchase of 5 there is no way from the begin of the day.
	x := changed(proof, 0, at(d, 1, 2, 5), -1)
	verify(t, "a number that is less, but not those that lead there", d, p, x, api.ErrFalse)
	for e := range 3 {
		x[0][at(d, 0, e, 5)]--
	}
	verify(t, "a number that is less, and those that lead there", d, p, x, api.OK)
	x = changed(proof, 0, at(d, 1, 2, 4), -1)
	verify(t, "a number of the cheapest way is less", d, p, x, api.ErrFalse)
	for e := range 3 {
		for m := range 5 {
			x[0][at(d, 0, e, m)]--
		}
	}
	verify(t, "a right table, in which the first number proves too little", d, p, x, api.ErrFalse)
	x[0][at(d, 0, 0, 0)]++
	verify(t, "the first number is one too great", d, p, x, api.ErrFalse)
	verify(t, "the first number is less", d, p, changed(proof, 0, at(d, 0, 0, 0), 39), api.ErrFalse)
	verify(t, "another number of the first hour is less", d, p, changed(proof, 0, at(d, 0, 0, 1), 39), api.OK)
	verify(t, "another number of the first hour is -Never", d, p, changed(proof, 0, at(d, 0, 0, 1), -never), api.OK)
	verify(t, "all are -Never", d, p, [][]int{slices.Repeat([]int{-never}, 99)}, api.ErrFalse)
	verify(t, "all are 0", d, p, [][]int{make([]int, 99)}, api.ErrFalse)
	verify(t, "all of it is less by one", d, p, lowered(d, func() int { return 1 }), api.ErrFalse)

	// Where End is not reached any number is right; the cost of an hour may be below 0, and what is not Never counts.
	d = chapter()
	d.Hours[1] = market.Hour{Buy: 30, Sell: 20, Sun: 5}
	d.Most, d.Store = 3, market.Store{Energy: 1, Full: 2, Power: 1, End: 1}
	p, proof = best(t, d)
	last := at(d, 2, 0, 3)
	if proof[0][last] != never || proof[0][at(d, 1, 0, 3)] == never || proof[0][at(d, 1, 1, 3)] == never {
		t.Fatal(proof)
	}
	verify(t, "less than Never", d, p, changed(proof, 0, last, never-1), api.OK)
	verify(t, "much less than Never", d, p, changed(proof, 0, last, 1000000), api.OK)
	verify(t, "so much less that it matters", d, p, changed(proof, 0, last, -1000), api.ErrFalse)
}

// TestNeverAfterNever has hours that earn before nothing can follow: Never stays Never, but one less does not.
func TestNeverAfterNever(t *testing.T) {
	d := flat(2, market.Hour{Buy: 9, Sell: 9, Sun: 5})
	d.Store, d.Most = market.Store{Energy: 1, Full: 1, End: 1}, 0
	p, proof := best(t, d)
	// One number for each energy and hour: energy 0 can never become 1.
	if want := [][]int{{never, -90, never, -45, never, 0}}; !sameLists(proof, want) {
		t.Fatal(proof)
	}
	verify(t, "as it is", d, p, proof, api.OK)
	verify(t, "one less at the end", d, p, [][]int{{never, -90, never, -45, never - 1, 0}}, api.ErrFalse)
	verify(t, "45 less follows", d, p, [][]int{{never, -90, never - 46, -45, never - 1, 0}}, api.ErrFalse)
	verify(t, "45 less follows, and 90 less", d, p, [][]int{{never - 91, -90, never - 46, -45, never - 1, 0}}, api.OK)
	verify(t, "90 less is one too great", d, p, [][]int{{never - 90, -90, never - 46, -45, never - 1, 0}}, api.ErrFalse)
	verify(t, "45 less is one too great", d, p, [][]int{{never - 91, -90, never - 45, -45, never - 1, 0}}, api.ErrFalse)
	// What is paid makes more than Never of a number near it.
	d = flat(2, market.Hour{Buy: 9, Sell: 9, Load: 5})
	d.Store, d.Most = market.Store{Energy: 1, Full: 1, End: 1}, 5
	p, proof = best(t, d)
	for m := range 6 {
		proof[0][at(d, 2, 0, m)] = never - 45
	}
	verify(t, "Never just reached again", d, p, proof, api.OK)
	proof[0][at(d, 2, 0, 5)]--
	verify(t, "Never just not reached again", d, p, proof, api.ErrFalse)
	for m := range 6 {
		proof[0][at(d, 1, 0, m)]--
	}
	verify(t, "Never just not reached again, but said so", d, p, proof, api.OK)
}

// wrongly returns a plan and a proof that may be wrong.
func wrongly(r *rand.Rand, d market.Day, p market.Plan, proof [][]int) (market.Plan, [][]int) {
	p, proof = copiedPlan(p), copiedLists(proof)
	switch r.IntN(12) {
	case 0:
		p.Cost += from(r, -1, 1)
	case 1:
		p = randomPlan(r, d)
	case 2:
		p = randomPlan(r, d)
		proof = lowered(d, func() int { return from(r, 0, 1) })
	case 3:
		proof = lowered(d, func() int { return max(0, from(r, -9, 1)) })
	case 4:
		proof = lowered(d, func() int { return max(0, from(r, -30, 1)) })
	case 5:
		if len(p.Charge) > 0 {
			p.Charge[r.IntN(len(p.Charge))] += from(r, -1, 1)
		}
	case 6:
		table := r.IntN(len(proof))
		proof[table] = proof[table][:from(r, 0, size(d))]
	case 7:
		proof = proof[:from(r, 0, len(proof))]
	default:
		// The numbers near the end matter less.
		for range from(r, 1, 3) {
			l := proof[r.IntN(len(proof))]
			index := r.IntN(len(l))
			switch {
			case l[index] == never && r.IntN(2) > 0:
				l[index] = from(r, -50, 50)
			case r.IntN(20) == 0:
				l[index] = []int{never, never + 1, -never, -never - 1, math.MaxInt, math.MinInt}[r.IntN(6)]
			default:
				l[index] -= max(0, from(r, -1, 5)) - from(r, 0, 1)
			}
		}
	}
	return p, proof
}

// TestVerifyRandom compares with the chapter's words.
func TestVerifyRandom(t *testing.T) {
	r := rand.New(rand.NewPCG(10, 4))
	met := map[api.Errno]int{}
	for range 6000 {
		d := randomDay(r, 4)
		p, proof, e := market.Best(d)
		if e != api.OK {
			p, proof = randomPlan(r, d), tellProof(d)
		}
		p, proof = wrongly(r, d, p, proof)
		want := tellVerify(d, p, proof)
		met[want]++
		if e := market.Verify(d, p, proof); e != want {
			t.Fatalf("%+v %+v %v: %d, not %d", d, p, proof, e, want)
		}
	}
	for _, e := range []api.Errno{api.OK, api.ErrArg, api.ErrPlan, api.ErrFalse} {
		if met[e] < 300 {
			t.Error("met:", e, met[e])
		}
	}
}
