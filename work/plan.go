package work

import (
	"cmp"
	"slices"

	"switchgear/api"
)

// ends returns the hour in which a job has ended.
func (y Yard) ends(job int, starts []int) int { return starts[job] + y.Jobs[job].Hours }

// end returns the greatest end of a job, or 0.
func (y Yard) end(starts []int) int {
	last := 0
	for job := range y.Jobs {
		last = max(last, y.ends(job, starts))
	}
	return last
}

// inTime reports whether a job stays within its window, and those of After have ended before it begins.
// They must be in time themselves: otherwise their ends may be too great for an int.
func (y Yard) inTime(job int, starts []int) bool {
	x := y.Jobs[job]
	hasEnded := func(earlier int) bool { return y.ends(earlier, starts) <= starts[job] }
	return within(starts[job], x.From, x.To-x.Hours) && all(x.After, hasEnded)
}

// load returns those jobs of a set that run in an hour.
func (y Yard) load(s set, starts []int, hour int) set {
	running := noJob
	for job := range s.jobs() {
		if within(hour, starts[job], y.ends(job, starts)-1) {
			running |= alone(job)
		}
	}
	return running
}

// verify returns the end of a plan whose jobs are in time, or the first hour that is not bearable.
func (b *book) verify(starts []int) (int, api.Errno) {
	end := b.end(starts)
	for hour := range end {
		if !b.bearable(b.load(b.allJobs(), starts, hour)) {
			return hour, api.ErrPlan
		}
	}
	return end, api.OK
}

// plan returns the right plan with the least end; of several the least one.
//
// No job of that plan can begin an hour earlier: the plan would still be right, end no later, and be less.
// So each job begins at its From, or just when another one ends: if not, the jobs of the hour before all run in its first hour, too, where they are bearable with it, and it could begin with them.
// It is enough to place the jobs as they begin, each at its From or at the end of one that has been placed.
func (b *book) plan() ([]int, api.Errno) {
	starts := make([]int, len(b.Jobs))
	var best []int
	e := api.ErrNone
	var try func(placed set)
	try = func(placed set) {
		if placed == b.allJobs() {
			if e == api.ErrNone || b.comparePlans(starts, best) < 0 {
				best, e = slices.Clone(starts), api.OK
			}
			return
		}
		for job := range (b.allJobs() &^ placed).jobs() {
			for _, start := range b.moments(job, placed, starts) {
				starts[job] = start
				if b.fits(job, placed, starts) {
					try(placed | alone(job))
				}
			}
		}
	}
	try(noJob)
	return best, e
}

// comparePlans puts plans with a lesser end first, and those with equal ends in lexicographic order.
func (y Yard) comparePlans(a, b []int) int {
	return cmp.Or(cmp.Compare(y.end(a), y.end(b)), slices.Compare(a, b))
}

// moments returns the hours in which a job may have to begin after some have been placed: its From, and their ends.
// There is none if it must come after one that has not been placed.
func (y Yard) moments(job int, placed set, starts []int) []int {
	if !all(y.Jobs[job].After, placed.has) {
		return nil
	}
	list := []int{y.Jobs[job].From}
	for other := range placed.jobs() {
		list = append(list, y.ends(other, starts))
	}
	return list
}

// fits reports whether a job is in time, and bearable in each of its hours beside those that have been placed.
func (b *book) fits(job int, placed set, starts []int) bool {
	if !b.inTime(job, starts) {
		return false
	}
	for hour := starts[job]; hour < b.ends(job, starts); hour++ {
		if !b.bearable(b.load(placed, starts, hour) | alone(job)) {
			return false
		}
	}
	return true
}
