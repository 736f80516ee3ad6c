package market

import "iter"

// schedule is a valid day with one of its lists of starts.
type schedule struct {
	Day
	starts []int
}

// used returns what is used in an hour: its Load, and the Power of the jobs that run in it.
func (s schedule) used(hour int) int {
	n := s.Hours[hour].Load
	for i, j := range s.Jobs {
		if within(hour, s.starts[i], s.starts[i]+j.Hours-1) {
			n += j.Power
		}
	}
	return n
}

// need returns the need of an hour with a charge.
func (s schedule) need(hour, charge int) int { return s.used(hour) + charge - s.Hours[hour].Sun }

// bought returns what is bought for a need.
func bought(need int) int { return max(need, 0) }

// sold returns what is sold with a need.
func sold(need int) int { return max(-need, 0) }

// price returns what an hour costs with a need.
func (h Hour) price(need int) int { return bought(need)*h.Buy - sold(need)*h.Sell }

// span returns the least and the greatest charge with which the energy of the store stays right and the need of an hour is at most a limit. There is none if the least is greater than the greatest.
func (s schedule) span(hour, energy, limit int) (low, high int) {
	low = max(-s.Store.Power, -energy)
	high = min(s.Store.Power, s.Store.Full-energy, limit-s.need(hour, 0))
	return low, high
}

// charges yields the possible charges of an hour, in increasing order.
func (s schedule) charges(hour, energy int) iter.Seq[int] {
	return func(yield func(int) bool) {
		low, high := s.span(hour, energy, s.Most)
		for charge := low; charge <= high; charge++ {
			if !yield(charge) {
				return
			}
		}
	}
}

// isPossible reports whether a charge for each hour makes a possible plan.
func (s schedule) isPossible(list []int) bool {
	energy := s.Store.Energy
	for hour, charge := range list {
		if low, high := s.span(hour, energy, s.Most); !within(charge, low, high) {
			return false
		}
		energy += charge
	}
	return energy >= s.Store.End
}

// cost returns the cost of a possible plan.
func (s schedule) cost(list []int) int {
	sum, peak := 0, 0
	for hour, charge := range list {
		need := s.need(hour, charge)
		sum += s.Hours[hour].price(need)
		peak = max(peak, bought(need))
	}
	return sum + s.Peak*peak
}

// rows returns the ledger of a possible plan.
func (s schedule) rows(list []int) []Row {
	rows := make([]Row, len(list))
	for hour, charge := range list {
		h, used, need := s.Hours[hour], s.used(hour), s.need(hour, charge)
		rows[hour] = Row{
			Bought: bought(need), Sold: sold(need), Made: h.Sun, Used: used, Stored: charge,
			Carbon: h.Carbon * bought(need), Water: h.Water * used,
		}
	}
	return rows
}

// sum returns the sums of rows.
func sum(rows ...Row) Row {
	var total Row
	for _, r := range rows {
		total.Bought += r.Bought
		total.Sold += r.Sold
		total.Made += r.Made
		total.Used += r.Used
		total.Stored += r.Stored
		total.Carbon += r.Carbon
		total.Water += r.Water
	}
	return total
}
