package work

import (
	"cmp"
	"iter"
	"slices"
)

// set is a set of jobs: it has a bit for each job.
type set int

// The first sets; those of the other jobs alone follow from them.
const (
	noJob    set = iota
	firstJob     // job 0 alone
)

// alone returns the set of one job.
func alone(job int) set { return firstJob << job }

// has reports whether a job is in a set.
func (s set) has(job int) bool { return s&alone(job) != noJob }

// jobs yields the jobs of a set, in increasing order.
func (s set) jobs() iter.Seq[int] {
	return func(yield func(int) bool) {
		for job := range MaxJobs {
			if s.has(job) && !yield(job) {
				return
			}
		}
	}
}

// allJobs returns the set of all jobs of a yard.
func (y Yard) allJobs() set { return alone(len(y.Jobs)) - 1 }

// setOf returns the set of a list, and whether it is one: all its indices are those of jobs, and none is there twice.
func (y Yard) setOf(list []int) (set, bool) {
	s := noJob
	for _, job := range list {
		if !within(job, 0, len(y.Jobs)-1) || s.has(job) {
			return noJob, false
		}
		s |= alone(job)
	}
	return s, true
}

// compare puts lists of fewer jobs first, and those of equal size in lexicographic order.
func compare(a, b []int) int {
	return cmp.Or(cmp.Compare(len(a), len(b)), slices.Compare(a, b))
}
