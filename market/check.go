package market

import (
	"slices"

	"switchgear/api"
)

// checkPlan returns the error of a plan of a day.
func checkPlan(d Day, p Plan) api.Errno {
	if e := Check(d); e != api.OK {
		return e
	}
	if !contains(d.starts(), p.Starts) || len(p.Charge) != len(d.Hours) {
		return api.ErrArg
	}
	if !(schedule{d, p.Starts}).isPossible(p.Charge) {
		return api.ErrPlan
	}
	return api.OK
}

// patternsFor returns the patterns of an offer that is made with a plan.
func patternsFor(d Day, p Plan, o Offer) ([][]int, api.Errno) {
	list, e := Patterns(d, o)
	if e != api.OK {
		return nil, e
	}
	if e := checkPlan(d, p); e != api.OK {
		return nil, e
	}
	return list, api.OK
}

// hasRightNumbers reports whether all numbers of a day are allowed.
func (d Day) hasRightNumbers() bool {
	rightJob := func(j Job) bool { return j.isRight(len(d.Hours)) }
	return all(d.Hours, Hour.isRight) && d.Store.isRight() && all(d.Jobs, rightJob) && within(d.Most, 0, MaxEnergy) && within(d.Peak, 0, MaxPrice)
}

// isRight reports whether the numbers of an hour are allowed.
func (h Hour) isRight() bool {
	return within(h.Buy, 0, MaxPrice) && within(h.Sell, 0, h.Buy) &&
		within(h.Sun, 0, MaxEnergy) && within(h.Load, 0, MaxEnergy) &&
		within(h.Carbon, 0, maxAmount) && within(h.Water, 0, maxAmount)
}

// isRight reports whether the numbers of a store are allowed.
func (s Store) isRight() bool {
	return within(s.Full, 0, MaxStore) && within(s.Energy, 0, s.Full) && within(s.Power, 0, MaxStore) && within(s.End, 0, s.Full)
}

// isRight reports whether the numbers of a job are allowed in a day of so many hours.
func (j Job) isRight(hours int) bool {
	return isPart(j.From, j.To, hours) && within(j.Hours, 1, j.To-j.From) && within(j.Power, 0, maxPower)
}

// isAllowed reports whether an offer is allowed in a day of so many hours.
func (o Offer) isAllowed(hours int) bool {
	return isPart(o.From, o.To, hours) && within(o.Power, 1, MaxEnergy) && o.Hours >= 1 &&
		within(o.Calls, 0, maxCalls) && within(o.Pause, 0, MaxHours)
}

// isPart reports whether what begins with hour from and ends before hour to is a part of a day of so many hours.
func isPart(from, to, hours int) bool { return within(to, 0, hours) && within(from, 0, to) }

// choices returns how many lists of starts there are.
func (d Day) choices() int {
	n := 1
	for _, j := range d.Jobs {
		n *= j.last() - j.From + 1
	}
	return n
}

// last returns the last hour in which a job can begin.
func (j Job) last() int { return j.To - j.Hours }

// starts returns the lists of starts.
func (d Day) starts() [][]int {
	lists := [][]int{nil}
	for _, j := range d.Jobs {
		var longer [][]int
		for _, list := range lists {
			for hour := j.From; hour <= j.last(); hour++ {
				longer = append(longer, append(slices.Clone(list), hour))
			}
		}
		lists = longer
	}
	return lists
}

// contains reports whether a list is one of some lists.
func contains(lists [][]int, list []int) bool {
	return slices.ContainsFunc(lists, func(x []int) bool { return slices.Equal(x, list) })
}

// within reports whether n is from low to high.
func within(n, low, high int) bool { return n >= low && n <= high }

// all reports whether each element of a list is right.
func all[T any](list []T, right func(T) bool) bool {
	return !slices.ContainsFunc(list, func(x T) bool { return !right(x) })
}
