package market

import "slices"

// patterns returns the patterns of an allowed offer, in lexicographic order.
func (o Offer) patterns() [][]int {
	var list [][]int
	var add func(pattern []int, next int)
	add = func(pattern []int, next int) {
		list = append(list, slices.Clone(pattern))
		if len(pattern) == o.Calls {
			return
		}
		for hour := next; hour <= o.To-o.Hours; hour++ {
			add(append(pattern, hour), hour+o.Hours+o.Pause)
		}
	}
	add(nil, o.From)
	return list
}

// pledge is an allowed offer that is made with the charges of a possible plan.
type pledge struct {
	schedule
	offer  Offer
	charge []int
}

// limits returns what the need of each hour is at most if calls come in a pattern.
func (p pledge) limits(pattern []int) []int {
	list := slices.Repeat([]int{p.Most}, len(p.Hours))
	for _, first := range pattern {
		for hour := first; hour < first+p.offer.Hours; hour++ {
			list[hour] = bought(p.need(hour, p.charge[hour])) - p.offer.Power
		}
	}
	return list
}

// answer returns the charges with which the store holds as much as possible after each hour if calls come in a pattern, until nothing is possible, and whether the offer is delivered by them. They hang on no call that is still to come; and since what is possible with less energy is possible with more, no other charges deliver what these do not.
func (p pledge) answer(pattern []int) ([]int, bool) {
	energy := p.Store.Energy
	var list []int
	for hour, limit := range p.limits(pattern) {
		low, high := p.span(hour, energy, limit)
		if low > high {
			return list, false
		}
		list = append(list, high)
		energy += high
	}
	return list, energy >= p.Store.End
}
