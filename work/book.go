package work

import (
	"slices"

	"switchgear/api"
	"switchgear/paths"
	"switchgear/plant"
)

// book is a right yard, with what is known of its sets of jobs: whether they are bearable.
type book struct {
	Yard
	known map[set]bool
}

func newBook(y Yard) *book { return &book{y, map[set]bool{}} }

// bearable reports whether a set of jobs is bearable.
func (b *book) bearable(s set) bool {
	if s == noJob {
		return true
	}
	is, known := b.known[s]
	if !known {
		is = b.smallerBearable(s) && b.keepsRules(s)
		b.known[s] = is
	}
	return is
}

// smallerBearable reports whether each set with one job less is bearable, and so each smaller one.
func (b *book) smallerBearable(s set) bool {
	for job := range s.jobs() {
		if !b.bearable(s &^ alone(job)) {
			return false
		}
	}
	return true
}

// keepsRules reports whether a set keeps all rules, whatever its smaller sets do.
func (b *book) keepsRules(s set) bool {
	rules := []func(set) bool{b.hasPeople, b.sharesNoPart, b.feeds, b.staysRedundant}
	return all(rules, func(keeps func(set) bool) bool { return keeps(s) })
}

// hasPeople reports whether there are enough people for a set.
func (y Yard) hasPeople(s set) bool {
	sum := 0
	for job := range s.jobs() {
		sum += y.Jobs[job].People
	}
	return sum <= y.People
}

// sharesNoPart reports whether no part belongs to two jobs of a set.
func (y Yard) sharesNoPart(s set) bool { return distinct(y.parts(s)) }

// feeds reports whether each rack with a promise is fed while a set runs.
func (y Yard) feeds(s set) bool { return !y.darkens(y.parts(s), 1) }

// staysRedundant reports whether, if redundancy is kept, each rack with two promised paths is fed while a set runs and any other part fails.
func (y Yard) staysRedundant(s set) bool {
	if !y.Redundant {
		return true
	}
	// A part that has failed already, or is out, changes nothing if it fails: feeds has asked for it.
	others, _ := plant.Parts(y.Plant)
	return all(others, func(x api.Part) bool { return !y.darkens(append(y.parts(s), x), 2) })
}

// darkens reports whether a rack with at least so many promised paths is dark after some parts have failed.
func (y Yard) darkens(parts []api.Part, promised int) bool {
	// The yard is right, so that there is no error.
	dark, _ := paths.Dark(y.Plant, y.State, y.Transfers, parts)
	return slices.ContainsFunc(dark, func(rack int) bool { return y.Plant.Racks[rack].Paths >= promised })
}

// doubled returns how many of the racks with two promised paths have two while a set runs.
func (y Yard) doubled(s set) int {
	// The yard is right, so that there is no error.
	now, _ := paths.After(y.Plant, y.State, y.Transfers, y.parts(s))
	count := 0
	for rack, x := range y.Plant.Racks {
		if x.Paths != 2 {
			continue
		}
		if n, _ := paths.Strength(y.Plant, now, rack); n == 2 {
			count++
		}
	}
	return count
}

// parts returns the parts of all jobs of a set.
func (y Yard) parts(s set) []api.Part {
	var list []api.Part
	for job := range s.jobs() {
		list = append(list, y.Jobs[job].Parts...)
	}
	return list
}

// why returns the sets that are not bearable, but all of whose smaller sets are.
func (b *book) why() [][]int {
	var list [][]int
	for s := range b.allJobs() + 1 {
		if !b.bearable(s) && b.smallerBearable(s) {
			list = append(list, slices.Collect(s.jobs()))
		}
	}
	slices.SortFunc(list, compare)
	return list
}
