package market_test

import (
	"math/rand/v2"
	"slices"
	"testing"

	"switchgear/api"
	"switchgear/market"
)

// never is a shorter name.
const never = market.Never

// chapter returns the day of the chapter's first example.
func chapter() market.Day {
	return market.Day{
		Hours: []market.Hour{{Buy: 10, Load: 2}, {Buy: 30, Load: 2}},
		Store: market.Store{Full: 2, Power: 2},
		Most:  10,
	}
}

// flat returns a day of equal hours without a store, jobs and Peak.
func flat(hours int, h market.Hour) market.Day {
	return market.Day{Hours: slices.Repeat([]market.Hour{h}, hours), Most: market.MaxEnergy}
}

// idle returns a plan in which the store does nothing, with the first starts of a day.
func idle(d market.Day) market.Plan {
	p := market.Plan{Charge: make([]int, len(d.Hours))}
	for _, j := range d.Jobs {
		p.Starts = append(p.Starts, j.From)
	}
	return p
}

// copiedLists returns equal lists that share no memory with l.
func copiedLists(l [][]int) [][]int {
	l = slices.Clone(l)
	for i := range l {
		l[i] = slices.Clone(l[i])
	}
	return l
}

// copied returns an equal day that shares no memory with d.
func copied(d market.Day) market.Day {
	d.Hours, d.Jobs = slices.Clone(d.Hours), slices.Clone(d.Jobs)
	return d
}

// copiedPlan returns an equal plan that shares no memory with p.
func copiedPlan(p market.Plan) market.Plan {
	p.Starts, p.Charge = slices.Clone(p.Starts), slices.Clone(p.Charge)
	return p
}

// sameLists reports whether lists are equal.
func sameLists(a, b [][]int) bool { return slices.EqualFunc(a, b, slices.Equal) }

// sameDay reports whether days are equal.
func sameDay(a, b market.Day) bool {
	return slices.Equal(a.Hours, b.Hours) && a.Store == b.Store && slices.Equal(a.Jobs, b.Jobs) && a.Most == b.Most && a.Peak == b.Peak
}

// samePlan reports whether plans are equal.
func samePlan(a, b market.Plan) bool {
	return slices.Equal(a.Starts, b.Starts) && slices.Equal(a.Charge, b.Charge) && a.Cost == b.Cost
}

// tellStarts returns the lists of starts of a valid day.
func tellStarts(d market.Day) [][]int {
	var list [][]int
	for first := range market.MaxHours {
		for second := range market.MaxHours {
			starts := []int{first, second}[:len(d.Jobs)]
			right := true
			for i, j := range d.Jobs {
				right = right && starts[i] >= j.From && starts[i]+j.Hours <= j.To
			}
			if right && !slices.ContainsFunc(list, func(l []int) bool { return slices.Equal(l, starts) }) {
				list = append(list, starts)
			}
		}
	}
	return list
}

// tellUsed returns what is used in an hour.
func tellUsed(d market.Day, starts []int, hour int) int {
	n := d.Hours[hour].Load
	for i, j := range d.Jobs {
		for k := range j.Hours {
			if starts[i]+k == hour {
				n += j.Power
			}
		}
	}
	return n
}

// tellNeed returns the need of an hour.
func tellNeed(d market.Day, starts []int, hour, charge int) int {
	return tellUsed(d, starts, hour) + charge - d.Hours[hour].Sun
}

// tellTrade returns what is bought and what is sold for a need.
func tellTrade(need int) (int, int) {
	switch {
	case need > 0:
		return need, 0
	case need < 0:
		return 0, -need
	}
	return 0, 0
}

// tellPossible reports whether charges make a possible plan, by the chapter's words.
func tellPossible(d market.Day, starts, charge []int) bool {
	energy := d.Store.Energy
	for hour, c := range charge {
		if c < -d.Store.Power || c > d.Store.Power {
			return false
		}
		energy += c
		if energy < 0 || energy > d.Store.Full {
			return false
		}
		if bought, _ := tellTrade(tellNeed(d, starts, hour, c)); bought > d.Most {
			return false
		}
	}
	return energy >= d.Store.End
}

// tellCost returns the cost of a plan.
func tellCost(d market.Day, starts, charge []int) int {
	sum, greatest := 0, 0
	for hour, c := range charge {
		bought, sold := tellTrade(tellNeed(d, starts, hour, c))
		sum += bought*d.Hours[hour].Buy - sold*d.Hours[hour].Sell
		greatest = max(greatest, bought)
	}
	return sum + d.Peak*greatest
}

// charges returns all lists of n numbers from -power to power, in lexicographic order.
func charges(n, power int) [][]int {
	if n == 0 {
		return [][]int{nil}
	}
	var list [][]int
	for _, first := range charges(n-1, power) {
		for c := -power; c <= power; c++ {
			list = append(list, append(slices.Clone(first), c))
		}
	}
	return list
}

// possible returns all possible plans with their costs: the first starts first, and then the first charges.
func possible(d market.Day) []market.Plan {
	var list []market.Plan
	for _, starts := range tellStarts(d) {
		for _, charge := range charges(len(d.Hours), d.Store.Power) {
			if tellPossible(d, starts, charge) {
				list = append(list, market.Plan{Starts: starts, Charge: charge, Cost: tellCost(d, starts, charge)})
			}
		}
	}
	return list
}

// tellBest returns the first of all possible plans with the least cost, if there is one.
func tellBest(d market.Day) (market.Plan, bool) {
	list := possible(d)
	if len(list) == 0 {
		return market.Plan{}, false
	}
	return slices.MinFunc(list, func(a, b market.Plan) int { return a.Cost - b.Cost }), true
}

// tellLeast returns the least cost of all that can follow, or never: it goes through all of it.
func tellLeast(d market.Day, starts []int, h, e, m int) int {
	if h == len(d.Hours) {
		if e < d.Store.End {
			return never
		}
		return d.Peak * m
	}
	least := never
	for c := -d.Store.Power; c <= d.Store.Power; c++ {
		bought, sold := tellTrade(tellNeed(d, starts, h, c))
		if e+c < 0 || e+c > d.Store.Full || bought > d.Most {
			continue
		}
		rest := tellLeast(d, starts, h+1, e+c, max(m, bought))
		if rest < never {
			least = min(least, bought*d.Hours[h].Buy-sold*d.Hours[h].Sell+rest)
		}
	}
	return least
}

// at returns where V(h, e, m) stands in a table.
func at(d market.Day, h, e, m int) int {
	return m + (d.Most+1)*(e+(d.Store.Full+1)*h)
}

// size returns how many numbers a table has.
func size(d market.Day) int { return (len(d.Hours) + 1) * (d.Store.Full + 1) * (d.Most + 1) }

// tellProof returns the proof of the least costs.
func tellProof(d market.Day) [][]int {
	var proof [][]int
	for _, starts := range tellStarts(d) {
		var table []int
		for h := range len(d.Hours) + 1 {
			for e := range d.Store.Full + 1 {
				for m := range d.Most + 1 {
					table = append(table, tellLeast(d, starts, h, e, m))
				}
			}
		}
		proof = append(proof, table)
	}
	return proof
}

// tellLimit returns the greatest number that may stand for V(h, e, m), by the numbers of the next hour.
func tellLimit(d market.Day, starts, table []int, h, e, m int) int {
	limit := never
	if h == len(d.Hours) {
		if e >= d.Store.End {
			limit = d.Peak * m
		}
		return limit
	}
	for c := -d.Store.Power; c <= d.Store.Power; c++ {
		bought, sold := tellTrade(tellNeed(d, starts, h, c))
		if e+c < 0 || e+c > d.Store.Full || bought > d.Most {
			continue
		}
		if next := table[at(d, h+1, e+c, max(m, bought))]; next < never {
			limit = min(limit, bought*d.Hours[h].Buy-sold*d.Hours[h].Sell+next)
		}
	}
	return limit
}

// eachState calls f for each state of a day, the last hour first.
func eachState(d market.Day, f func(h, e, m int)) {
	for h := len(d.Hours); h >= 0; h-- {
		for e := range d.Store.Full + 1 {
			for m := range d.Most + 1 {
				f(h, e, m)
			}
		}
	}
}

// tellRight reports whether a table is right, by the chapter's words.
func tellRight(d market.Day, starts, table []int) bool {
	for _, n := range table {
		if n < -never || n > never {
			return false
		}
	}
	right := true
	eachState(d, func(h, e, m int) {
		right = right && table[at(d, h, e, m)] <= tellLimit(d, starts, table, h, e, m)
	})
	return right
}

// tellVerify returns what Verify should return for a valid day.
func tellVerify(d market.Day, p market.Plan, proof [][]int) api.Errno {
	lists := tellStarts(d)
	if !slices.ContainsFunc(lists, func(l []int) bool { return slices.Equal(l, p.Starts) }) || len(p.Charge) != len(d.Hours) {
		return api.ErrArg
	}
	if !tellPossible(d, p.Starts, p.Charge) {
		return api.ErrPlan
	}
	if len(proof) != len(lists) || slices.ContainsFunc(proof, func(table []int) bool { return len(table) != size(d) }) {
		return api.ErrArg
	}
	if tellCost(d, p.Starts, p.Charge) != p.Cost {
		return api.ErrFalse
	}
	for i, starts := range lists {
		if !tellRight(d, starts, proof[i]) || proof[i][at(d, 0, d.Store.Energy, 0)] < p.Cost {
			return api.ErrFalse
		}
	}
	return api.OK
}

// tellPatterns returns all patterns of an offer: of all sets of hours, those that are possible.
func tellPatterns(d market.Day, o market.Offer) [][]int {
	var list [][]int
	for set := range 1 << len(d.Hours) {
		var pattern []int
		for hour := range d.Hours {
			if set&(1<<hour) != 0 {
				pattern = append(pattern, hour)
			}
		}
		right := len(pattern) <= o.Calls
		for i, hour := range pattern {
			right = right && hour >= o.From && hour+o.Hours <= o.To && (i == 0 || hour-(pattern[i-1]+o.Hours) >= o.Pause)
		}
		if right {
			list = append(list, pattern)
		}
	}
	slices.SortFunc(list, slices.Compare)
	return list
}

// isCalled reports whether an hour is one of a call.
func isCalled(o market.Offer, pattern []int, hour int) bool {
	for _, first := range pattern {
		if hour >= first && hour < first+o.Hours {
			return true
		}
	}
	return false
}

// tellAllows reports whether an hour with a charge is as it must be.
func tellAllows(d market.Day, p market.Plan, o market.Offer, hour, charge int, called bool) bool {
	need := tellNeed(d, p.Starts, hour, charge)
	if !called {
		return need <= d.Most
	}
	planned, _ := tellTrade(tellNeed(d, p.Starts, hour, p.Charge[hour]))
	return need <= planned-o.Power
}

// tellAnswer returns what Answer should: it follows all energies that the store can have.
func tellAnswer(d market.Day, p market.Plan, o market.Offer, pattern []int) ([]int, bool) {
	can := []int{d.Store.Energy}
	greatest := d.Store.Energy
	var list []int
	for hour := range d.Hours {
		var next []int
		for _, e := range can {
			for c := -d.Store.Power; c <= d.Store.Power; c++ {
				if e+c >= 0 && e+c <= d.Store.Full && tellAllows(d, p, o, hour, c, isCalled(o, pattern, hour)) && !slices.Contains(next, e+c) {
					next = append(next, e+c)
				}
			}
		}
		if len(next) == 0 {
			return list, false
		}
		list = append(list, slices.Max(next)-greatest)
		can, greatest = next, slices.Max(next)
	}
	return list, greatest >= d.Store.End
}

// from returns a number from low to high.
func from(r *rand.Rand, low, high int) int { return low + r.IntN(high-low+1) }

// randomJob returns a valid job for a day of so many hours.
func randomJob(r *rand.Rand, hours int) market.Job {
	j := market.Job{From: from(r, 0, hours-1), Power: from(r, 0, 2)}
	j.To = from(r, j.From+1, hours)
	j.Hours = from(r, 1, j.To-j.From)
	return j
}

// randomStore returns a valid store that is small.
func randomStore(r *rand.Rand) market.Store {
	s := market.Store{Full: from(r, 0, 3), Power: from(r, 0, 2)}
	s.Energy, s.End = from(r, 0, s.Full), from(r, 0, s.Full)
	return s
}

// randomDay returns a valid day with at most so many hours, which may have no possible plan.
func randomDay(r *rand.Rand, hours int) market.Day {
	for {
		d := market.Day{Store: randomStore(r), Most: from(r, 1, 6), Peak: max(0, from(r, -2, 3))}
		for range from(r, 1, hours) {
			h := market.Hour{Buy: from(r, 0, 5), Sun: max(0, from(r, -2, 3)), Load: from(r, 0, 3), Carbon: from(r, 0, 9), Water: from(r, 0, 9)}
			h.Sell = from(r, 0, h.Buy)
			d.Hours = append(d.Hours, h)
		}
		for range max(0, from(r, -1, 2)) {
			d.Jobs = append(d.Jobs, randomJob(r, len(d.Hours)))
		}
		if len(tellStarts(d)) <= market.MaxStarts {
			return d
		}
	}
}

// randomPlan returns a plan for a day with its cost, possible or not.
func randomPlan(r *rand.Rand, d market.Day) market.Plan {
	lists := tellStarts(d)
	p := market.Plan{Starts: lists[r.IntN(len(lists))]}
	energy := d.Store.Energy
	for range d.Hours {
		c := from(r, -d.Store.Power, d.Store.Power)
		if r.IntN(8) > 0 {
			c = min(max(c, -energy), d.Store.Full-energy)
		}
		energy += c
		p.Charge = append(p.Charge, c)
	}
	p.Cost = tellCost(d, p.Starts, p.Charge)
	return p
}

// promised returns a random day with at most so many hours, and a possible plan of it.
func promised(r *rand.Rand, hours int) (market.Day, market.Plan) {
	for {
		d := randomDay(r, hours)
		if p := randomPlan(r, d); tellPossible(d, p.Starts, p.Charge) {
			return d, p
		}
	}
}

// randomOffer returns an offer that is allowed for a day.
func randomOffer(r *rand.Rand, d market.Day) market.Offer {
	o := market.Offer{Power: from(r, 1, 2), Hours: from(r, 1, 2), Calls: from(r, 0, 4), Pause: from(r, 0, 2)}
	o.From = from(r, 0, len(d.Hours)-1)
	o.To = from(r, o.From, len(d.Hours))
	return o
}

// best returns what Best returns for a day, which must have no error.
func best(t *testing.T, d market.Day) (market.Plan, [][]int) {
	t.Helper()
	p, proof, e := market.Best(d)
	if e != api.OK {
		t.Fatalf("Best: error %d: %+v", e, d)
	}
	return p, proof
}
