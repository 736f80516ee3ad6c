package acts

import (
	"slices"

	"switchgear/api"
	"switchgear/plant"
	"switchgear/steps"
)

// setting is what a procedure belongs to: it does not change during a run.
type setting struct {
	plant api.Plant
	start api.State
	task  steps.Task
	items []Item
}

// newSetting returns a setting that shares no memory with what it is made of. Of the task it has what counts in a run.
func newSetting(p api.Plant, s api.State, t steps.Task, l []Item) setting {
	return setting{
		plant: twinPlant(p),
		start: twinState(s),
		task:  steps.Task{Fed: slices.Clone(t.Fed), Crew: slices.Clone(t.Crew)},
		items: slices.Clone(l),
	}
}

// fed returns for each rack whether it is fed in a state.
func (x setting) fed(s api.State) []bool {
	// The state is valid, so that there is no error.
	feeds, _ := plant.Fed(x.plant, s)
	list := make([]bool, len(feeds))
	for rack, live := range feeds {
		list[rack] = live[0] || live[1]
	}
	return list
}

// stepsOf returns the steps of items.
func stepsOf(l []Item) []api.Step {
	list := make([]api.Step, len(l))
	for i, x := range l {
		list[i] = x.Step
	}
	return list
}

// twinPlant returns an equal plant that shares no memory with p.
func twinPlant(p api.Plant) api.Plant {
	p.Sources = slices.Clone(p.Sources)
	p.Links = slices.Clone(p.Links)
	for i, x := range p.Links {
		p.Links[i].Trip = slices.Clone(x.Trip)
	}
	p.Racks = slices.Clone(p.Racks)
	return p
}

// twinState returns an equal state that shares no memory with s.
func twinState(s api.State) api.State {
	for _, l := range []*[]bool{&s.Closed, &s.Locked, &s.BadLink, &s.On, &s.BadSource, &s.Earthed, &s.BadBus} {
		*l = slices.Clone(*l)
	}
	return s
}
