package place

import (
	"slices"

	"switchgear/api"
)

// checkSums returns the error of jobs whose powers are added up.
func checkSums(l []Job) api.Errno {
	if len(l) > MaxJobs {
		return api.ErrMany
	}
	if !all(l, rightJob) {
		return api.ErrRange
	}
	if combinations(l) > maxCombinations {
		return api.ErrLarge
	}
	return api.OK
}

// checkSearch returns the error of a task whose tree is gone through.
func checkSearch(t Task) api.Errno {
	if e := Check(t); e != api.OK {
		return e
	}
	return checkSums(t.Jobs)
}

// rightJob reports whether a job is valid.
func rightJob(j Job) bool {
	return all(j.Need[:], rightNeed) && rightDraws(j.Draws) && within(j.Group, 0, maxGroup) && within(j.Worth, 0, maxWorth)
}

// rightDraws reports whether draws are valid.
func rightDraws(l []Draw) bool {
	if !within(len(l), 1, MaxDraws) {
		return false
	}
	least := 0
	for _, d := range l {
		if !within(d.Power, least, MaxPower) || !within(d.Count, 1, MaxCount) {
			return false
		}
		least = d.Power + 1
	}
	return true
}

// rightRack reports whether a rack is valid.
func rightRack(r Rack) bool {
	return all(r.Room[:], rightNeed) && within(r.Cap, 0, MaxCap) && within(r.Domain, 0, maxGroup)
}

// rightNeed reports whether a job may need so much, or a rack have room for it.
func rightNeed(n int) bool { return within(n, 0, MaxNeed) }

// rightMost reports whether a fraction is allowed as the greatest chance of capping.
func rightMost(m api.Ratio) bool {
	return within(m.D, 1, maxDenominator) && within(m.N, 0, m.D) && divisor(m.N, m.D) == 1
}

// combinations returns how many combinations of single measurements valid jobs have, but not more than one beyond the limit: the product of eight jobs need not fit an int.
func combinations(l []Job) int {
	n := 1
	for _, j := range l {
		n = min(n*j.measurements(), maxCombinations+1)
	}
	return n
}

// measurements returns how many single measurements a job has.
func (j Job) measurements() int {
	n := 0
	for _, d := range j.Draws {
		n += d.Count
	}
	return n
}

// divisor returns the greatest common divisor of two numbers, of which none is below 0 and one is above.
func divisor(a, b int) int {
	for b != 0 {
		a, b = b, a%b
	}
	return a
}

// within reports whether n is from low to high.
func within(n, low, high int) bool { return n >= low && n <= high }

// all reports whether each element of a list is right.
func all[T any](list []T, right func(T) bool) bool {
	return !slices.ContainsFunc(list, func(x T) bool { return !right(x) })
}
