package place

// isPlacement reports whether a list has, for each job, a rack or none.
func (t Task) isPlacement(where []int) bool {
	return len(where) == len(t.Jobs) && all(where, func(rack int) bool { return within(rack, none, len(t.Racks)-1) })
}

// jobsIn returns the jobs that a placement puts into a rack.
func (t Task) jobsIn(where []int, rack int) []Job {
	var list []Job
	for job, in := range where {
		if in == rack {
			list = append(list, t.Jobs[job])
		}
	}
	return list
}

// allows reports whether a placement is allowed whose racks have not too many combinations.
func (t Task) allows(where []int) bool {
	for i, r := range t.Racks {
		if !together(t.jobsIn(where, i)).fits(r, t.Most) {
			return false
		}
	}
	for job := range where {
		for other := range job {
			if t.clash(job, where[job], other, where[other]) {
				return false
			}
		}
	}
	return true
}

// clash reports whether two jobs must not be in two racks at once.
func (t Task) clash(job, rack, other, otherRack int) bool {
	return rack != none && otherRack != none && t.areMates(job, other) && t.Racks[rack].Domain == t.Racks[otherRack].Domain
}

// areMates reports whether two jobs have the same Group.
func (t Task) areMates(job, other int) bool {
	return t.Jobs[job].Group > 0 && t.Jobs[job].Group == t.Jobs[other].Group
}

// worth returns the worth of a placement.
func (t Task) worth(where []int) int {
	sum := 0
	for job, rack := range where {
		if rack != none {
			sum += t.Jobs[job].Worth
		}
	}
	return sum
}
