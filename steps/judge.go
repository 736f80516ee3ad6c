package steps

import (
	"slices"

	"switchgear/api"
	"switchgear/plant"
)

// judge knows which steps can be done in the valid states of a plant, and which of these states are legal for a task of it.
type judge struct {
	plant   api.Plant
	task    Task
	crew    [api.MaxBuses]bool // which buses are in Crew
	changes map[api.Deed]change
	reasons [5]reason
}

// change returns the flags of a state that a deed changes, and what it makes of the one at its index.
type change func(s api.State) (flags []bool, to bool)

// reason is a reason why a step cannot be done in a state.
type reason struct {
	broken  api.Errno
	applies func(s api.State, x api.Step) bool
}

// newJudge returns the judge of a valid plant and a task of it.
func newJudge(p api.Plant, t Task) *judge {
	j := &judge{plant: p, task: t, changes: changes()}
	for _, bus := range t.Crew {
		j.crew[bus] = true
	}
	// Each reason is asked only of a step to which those before it do not apply.
	j.reasons = [...]reason{
		{api.ErrArg, func(_ api.State, x api.Step) bool { return !isStep(p, x) }},
		{api.ErrDone, j.holds},
		{api.ErrBad, hasFailed},
		{api.ErrLocked, func(s api.State, x api.Step) bool { return moves(x) && s.Locked[x.Index] }},
		{api.ErrArc, j.arcs},
	}
	return j
}

// changes returns what each deed changes.
func changes() map[api.Deed]change {
	return map[api.Deed]change{
		api.Open:    func(s api.State) ([]bool, bool) { return s.Closed, false },
		api.Close:   func(s api.State) ([]bool, bool) { return s.Closed, true },
		api.Earth:   func(s api.State) ([]bool, bool) { return s.Earthed, true },
		api.Unearth: func(s api.State) ([]bool, bool) { return s.Earthed, false },
		api.Lock:    func(s api.State) ([]bool, bool) { return s.Locked, true },
		api.Unlock:  func(s api.State) ([]bool, bool) { return s.Locked, false },
		api.Start:   func(s api.State) ([]bool, bool) { return s.On, true },
		api.Stop:    func(s api.State) ([]bool, bool) { return s.On, false },
	}
}

// isStep reports whether a step is one of a valid plant.
func isStep(p api.Plant, x api.Step) bool {
	switch x.Deed {
	case api.Open, api.Close, api.Lock, api.Unlock:
		return isIndex(x.Index, len(p.Links)) && p.Links[x.Index].Kind != api.Cable
	case api.Earth, api.Unearth:
		return isIndex(x.Index, p.Buses)
	case api.Start, api.Stop:
		return isIndex(x.Index, len(p.Sources))
	}
	return false
}

// isIndex reports whether a number is from 0 to count - 1.
func isIndex(n, count int) bool { return n >= 0 && n < count }

// moves reports whether a step opens or closes a link.
func moves(x api.Step) bool { return x.Deed == api.Open || x.Deed == api.Close }

// holds reports whether a step holds.
func (j *judge) holds(s api.State, x api.Step) bool {
	flags, to := j.changes[x.Deed](s)
	return flags[x.Index] == to
}

// hasFailed reports whether a step is on a link or a source that cannot be moved or started any more.
func hasFailed(s api.State, x api.Step) bool {
	switch x.Deed {
	case api.Open, api.Close:
		return s.BadLink[x.Index]
	case api.Start, api.Stop:
		return s.BadSource[x.Index]
	}
	return false
}

// arcs reports whether a step moves a switch that would break or make a current.
func (j *judge) arcs(s api.State, x api.Step) bool {
	if !moves(x) || j.plant.Links[x.Index].Kind != api.Switch {
		return false
	}
	link := j.plant.Links[x.Index]
	islands, _ := plant.Islands(j.plant, j.after(s, api.Step{Deed: api.Open, Index: x.Index}))
	ends, fed := 0, false
	for _, island := range islands {
		if slices.Contains(island.Buses, link.A) != slices.Contains(island.Buses, link.B) {
			ends++
			fed = fed || len(island.Sources) > 0
		}
	}
	// A bus that has failed is in no island, so that there are less than two.
	return ends == 2 && fed
}

// after returns the state in which a step of the plant holds.
func (j *judge) after(s api.State, x api.Step) api.State {
	t := twin(s)
	flags, to := j.changes[x.Deed](t)
	flags[x.Index] = to
	return t
}

// do returns the state after a step, or the reason why it cannot be done.
func (j *judge) do(s api.State, x api.Step) (api.State, api.Errno) {
	for _, r := range j.reasons {
		if r.applies(s, x) {
			return api.State{}, r.broken
		}
	}
	return j.after(s, x), api.OK
}

// legal returns the error of a state that is not legal.
func (j *judge) legal(s api.State) api.Errno {
	switch {
	case j.earthsLive(s):
		return api.ErrEarthed
	case j.clashes(s):
		return api.ErrParallel
	case j.dark(s):
		return api.ErrDark
	case j.endangers(s):
		return api.ErrZone
	}
	return api.OK
}

// earthsLive reports whether a bus is earthed and live.
func (j *judge) earthsLive(s api.State) bool {
	live, _ := plant.Live(j.plant, s)
	for bus, earthed := range s.Earthed {
		if earthed && live[bus] {
			return true
		}
	}
	return false
}

// clashes reports whether two sources clash.
func (j *judge) clashes(s api.State) bool {
	pairs, _ := plant.Clashes(j.plant, s)
	return len(pairs) > 0
}

// dark reports whether a rack of Fed is not fed.
func (j *judge) dark(s api.State) bool {
	feeds, _ := plant.Fed(j.plant, s)
	return slices.ContainsFunc(j.task.Fed, func(rack int) bool { return feeds[rack] == [2]bool{} })
}

// endangers reports whether people at a bus of Crew are not safe.
func (j *judge) endangers(s api.State) bool {
	for _, bus := range j.task.Crew {
		if !s.Earthed[bus] {
			return true
		}
	}
	for i, x := range j.plant.Sources {
		if j.crew[x.Bus] && s.On[i] {
			return true
		}
	}
	for i, x := range j.plant.Links {
		leadsOut := j.crew[x.A] != j.crew[x.B]
		if leadsOut && (x.Kind == api.Cable || s.Closed[i] || !s.Locked[i]) {
			return true
		}
	}
	return false
}

// ends reports whether all steps of Goal hold.
func (j *judge) ends(s api.State) bool {
	return !slices.ContainsFunc(j.task.Goal, func(x api.Step) bool { return !j.holds(s, x) })
}

// twin returns an equal state that shares no memory with s.
func twin(s api.State) api.State {
	for _, l := range []*[]bool{&s.Closed, &s.Locked, &s.BadLink, &s.On, &s.BadSource, &s.Earthed, &s.BadBus} {
		*l = slices.Clone(*l)
	}
	return s
}
