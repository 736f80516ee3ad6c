package work

import (
	"slices"

	"switchgear/api"
)

// isRight reports whether a job is right that has this place in the list.
func (x Job) isRight(place int) bool {
	isEarlier := func(job int) bool { return within(job, 0, place-1) }
	return within(len(x.Parts), 1, maxParts) && distinct(x.Parts) &&
		within(x.Hours, 1, MaxHours) &&
		within(x.To, 0, MaxHours) &&
		within(x.From, 0, x.To-x.Hours) &&
		within(x.People, 1, maxCrew) &&
		len(x.After) <= maxAfter && all(x.After, isEarlier)
}

// takesOnly reports whether all parts of a job are among some parts.
func (x Job) takesOnly(parts []api.Part) bool {
	return all(x.Parts, func(part api.Part) bool { return slices.Contains(parts, part) })
}

// distinct reports whether no part is in a list twice.
func distinct(parts []api.Part) bool {
	for i, x := range parts {
		if slices.Contains(parts[:i], x) {
			return false
		}
	}
	return true
}

// within reports whether n is from low to high.
func within(n, low, high int) bool { return n >= low && n <= high }

// all reports whether each element of a list is right.
func all[T any](list []T, right func(T) bool) bool {
	return !slices.ContainsFunc(list, func(x T) bool { return !right(x) })
}
