// Package plant describes electrical plants and their states. It is layer 1: see shared/doc/01-plant.md.
package plant

import (
	"slices"

	"switchgear/api"
)

// Check returns the error of a plant.
func Check(p api.Plant) api.Errno {
	isBus := func(n int) bool { return n >= 0 && n < p.Buses }
	isSource := func(x api.Source) bool { return rightSource(x, isBus) }
	isLink := func(x api.Link) bool { return rightLink(x, isBus) }
	isRack := func(x api.Rack) bool { return rightRack(x, isBus) }
	rules := []struct {
		broken api.Errno
		holds  func() bool
	}{
		{api.ErrBus, func() bool { return within(p.Buses, 1, api.MaxBuses) }},
		{api.ErrSource, func() bool { return all(p.Sources, api.MaxSources, isSource) }},
		{api.ErrLink, func() bool { return all(p.Links, api.MaxLinks, isLink) }},
		{api.ErrRack, func() bool { return all(p.Racks, api.MaxRacks, isRack) }},
	}
	for _, rule := range rules {
		if !rule.holds() {
			return rule.broken
		}
	}
	return api.OK
}

// CheckState returns the error of a state.
func CheckState(p api.Plant, s api.State) api.Errno {
	if e := Check(p); e != api.OK {
		return e
	}
	rules := []func() bool{
		func() bool { return lengths(len(p.Links), s.Closed, s.Locked, s.BadLink) },
		func() bool { return lengths(len(p.Sources), s.On, s.BadSource) },
		func() bool { return lengths(p.Buses, s.Earthed, s.BadBus) },
		func() bool { return cablesRest(p, s) },
	}
	for _, holds := range rules {
		if !holds() {
			return api.ErrState
		}
	}
	return api.OK
}

// Initial returns the state in which only cables are closed.
func Initial(p api.Plant) (api.State, api.Errno) {
	if e := Check(p); e != api.OK {
		return api.State{}, e
	}
	s := blank(p)
	for i, x := range p.Links {
		s.Closed[i] = x.Kind == api.Cable
	}
	return s, api.OK
}

// Parts returns all parts.
func Parts(p api.Plant) ([]api.Part, api.Errno) {
	if e := Check(p); e != api.OK {
		return nil, e
	}
	var list []api.Part
	add := func(kind api.PartKind, count int) {
		for i := range count {
			list = append(list, api.Part{Kind: kind, Index: i})
		}
	}
	add(api.BusPart, p.Buses)
	add(api.SourcePart, len(p.Sources))
	add(api.LinkPart, len(p.Links))
	return list, api.OK
}

// Break returns the state in which a part has failed.
func Break(p api.Plant, s api.State, x api.Part) (api.State, api.Errno) {
	return withPart(p, s, x, true)
}

// Mend returns the state in which a part has not failed.
func Mend(p api.Plant, s api.State, x api.Part) (api.State, api.Errno) {
	return withPart(p, s, x, false)
}

// withPart returns the state in which a part has failed, or has not.
func withPart(p api.Plant, s api.State, x api.Part, bad bool) (api.State, api.Errno) {
	if e := CheckState(p, s); e != api.OK {
		return api.State{}, e
	}
	t := twin(s)
	var flags []bool
	switch x.Kind {
	case api.BusPart:
		flags = t.BadBus
	case api.SourcePart:
		flags = t.BadSource
	case api.LinkPart:
		flags = t.BadLink
	}
	// A kind that is none has no flags, so that no index is right for it.
	if x.Index < 0 || x.Index >= len(flags) {
		return api.State{}, api.ErrPart
	}
	flags[x.Index] = bad
	return t, api.OK
}

// blank returns the state in which everything is false.
func blank(p api.Plant) api.State {
	return api.State{
		Closed:    make([]bool, len(p.Links)),
		Locked:    make([]bool, len(p.Links)),
		BadLink:   make([]bool, len(p.Links)),
		On:        make([]bool, len(p.Sources)),
		BadSource: make([]bool, len(p.Sources)),
		Earthed:   make([]bool, p.Buses),
		BadBus:    make([]bool, p.Buses),
	}
}

// twin returns an equal state that shares no memory with s.
func twin(s api.State) api.State {
	return api.State{
		Closed:    slices.Clone(s.Closed),
		Locked:    slices.Clone(s.Locked),
		BadLink:   slices.Clone(s.BadLink),
		On:        slices.Clone(s.On),
		BadSource: slices.Clone(s.BadSource),
		Earthed:   slices.Clone(s.Earthed),
		BadBus:    slices.Clone(s.BadBus),
	}
}

// within reports whether n is from low to high.
func within(n, low, high int) bool { return n >= low && n <= high }

// all reports whether a list has at most so many elements, and each of them is right.
func all[T any](list []T, most int, right func(T) bool) bool {
	return len(list) <= most && !slices.ContainsFunc(list, func(x T) bool { return !right(x) })
}

// lengths reports whether each list has n elements.
func lengths(n int, lists ...[]bool) bool {
	return !slices.ContainsFunc(lists, func(l []bool) bool { return len(l) != n })
}

// cablesRest reports whether all cables are closed and not locked.
func cablesRest(p api.Plant, s api.State) bool {
	for i, x := range p.Links {
		if x.Kind == api.Cable && (!s.Closed[i] || s.Locked[i]) {
			return false
		}
	}
	return true
}

// rightSource reports whether a source is one that a plant may have.
func rightSource(x api.Source, isBus func(int) bool) bool {
	return isBus(x.Bus) &&
		within(int(x.Kind), int(api.Grid), int(api.Battery)) &&
		within(x.Power, 1, api.MaxPower) &&
		within(x.Sync, 0, api.MaxSync) &&
		within(x.Ohm, api.MinOhm, api.MaxOhm)
}

// rightLink reports whether a link is one that a plant may have.
func rightLink(x api.Link, isBus func(int) bool) bool {
	return isBus(x.A) && isBus(x.B) && x.A != x.B &&
		within(int(x.Kind), int(api.Cable), int(api.Breaker)) &&
		within(x.Most, 1, api.MaxPower) &&
		within(x.Ohm, api.MinOhm, api.MaxOhm) &&
		(x.Kind == api.Breaker || len(x.Trip) == 0) &&
		rightTrips(x.Trip)
}

// rightTrips reports whether a breaker may have these trips.
func rightTrips(trips []api.Trip) bool {
	if len(trips) > api.MaxTrips {
		return false
	}
	for i, x := range trips {
		if !within(x.Amps, 1, api.MaxAmps) || !within(x.Millis, 1, api.MaxMillis) {
			return false
		}
		if i > 0 && (x.Amps <= trips[i-1].Amps || x.Millis >= trips[i-1].Millis) {
			return false
		}
	}
	return true
}

// rightRack reports whether a rack is one that a plant may have.
func rightRack(x api.Rack, isBus func(int) bool) bool {
	feeds := 2
	if x.Feeds[1] == -1 {
		feeds = 1
	}
	return isBus(x.Feeds[0]) &&
		(feeds == 1 || isBus(x.Feeds[1]) && x.Feeds[1] != x.Feeds[0]) &&
		within(x.Power, 1, api.MaxPower) &&
		within(x.Paths, 0, feeds)
}
