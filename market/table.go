package market

import "iter"

// state is the begin of an hour: the energy of the store, and the greatest purchase so far.
type state struct{ hour, energy, peak int }

// table has a number for each state of a schedule: the least cost of all that can follow, or what is said to be at most that.
type table struct {
	schedule
	numbers []int
}

// size returns how many states a day has.
func (d Day) size() int { return (len(d.Hours) + 1) * (d.Store.Full + 1) * (d.Most + 1) }

// index returns where the number of a state stands.
func (d Day) index(at state) int {
	return (at.hour*(d.Store.Full+1)+at.energy)*(d.Most+1) + at.peak
}

// states yields all states, the last hour first.
func (d Day) states() iter.Seq[state] {
	return func(yield func(state) bool) {
		for hour := len(d.Hours); hour >= 0; hour-- {
			for energy := range d.Store.Full + 1 {
				for peak := range d.Most + 1 {
					if !yield(state{hour, energy, peak}) {
						return
					}
				}
			}
		}
	}
}

// fill returns the table of the least costs.
func fill(s schedule) *table {
	t := &table{s, make([]int, s.size())}
	for at := range t.states() {
		t.numbers[t.index(at)] = t.bound(at)
	}
	return t
}

// tables returns a proof as tables, and whether it has one of the right size for each list of starts.
func (d Day) tables(proof [][]int) ([]*table, bool) {
	lists := d.starts()
	if len(proof) != len(lists) {
		return nil, false
	}
	tables := make([]*table, len(lists))
	for i, starts := range lists {
		if len(proof[i]) != d.size() {
			return nil, false
		}
		tables[i] = &table{schedule{d, starts}, proof[i]}
	}
	return tables, true
}

// isRight reports whether no number of a table is greater than it may be.
func (t *table) isRight() bool {
	// Only with numbers that are not too great or too small do sums fit an int.
	if !all(t.numbers, func(n int) bool { return within(n, -Never, Never) }) {
		return false
	}
	for at := range t.states() {
		if t.numbers[t.index(at)] > t.bound(at) {
			return false
		}
	}
	return true
}

// bound returns the greatest number that may stand for a state, by the numbers of the next hour.
func (t *table) bound(at state) int {
	if at.hour < len(t.Hours) {
		cost, _ := t.cheapest(at, t.follows)
		return cost
	}
	if at.energy < t.Store.End {
		return Never
	}
	return t.Peak * at.peak
}

// cheapest returns the least cost of what follows a state, and the first charge that has it: Never if nothing can follow.
func (s schedule) cheapest(at state, follows func(at state, charge int) int) (cost, charge int) {
	cost = Never
	for c := range s.charges(at.hour, at.energy) {
		if n := follows(at, c); n < cost {
			cost, charge = n, c
		}
	}
	return cost, charge
}

// follows returns what follows a state with a possible charge: the cost of the hour and the number of the next state, or Never.
func (t *table) follows(at state, charge int) int {
	n := t.numbers[t.index(t.after(at, charge))]
	if n >= Never {
		// Nothing can follow the next state, whatever is earned until then.
		return Never
	}
	return n + t.Hours[at.hour].price(t.need(at.hour, charge))
}

// after returns the state after a state with a possible charge.
func (s schedule) after(at state, charge int) state {
	return state{at.hour + 1, at.energy + charge, max(at.peak, bought(s.need(at.hour, charge)))}
}

// first returns the state in which the day begins.
func (d Day) first() state { return state{energy: d.Store.Energy} }

// least returns the number of the state in which the day begins.
func (t *table) least() int { return t.numbers[t.index(t.first())] }

// charge returns the first charges that have the least cost, by a table of the least costs.
func (t *table) charge() []int {
	list := make([]int, len(t.Hours))
	at := t.first()
	for hour := range list {
		_, list[hour] = t.cheapest(at, t.follows)
		at = t.after(at, list[hour])
	}
	return list
}
