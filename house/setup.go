package house

import (
	"slices"

	"switchgear/api"
	"switchgear/bank"
	"switchgear/heat"
	"switchgear/meter"
	"switchgear/paths"
	"switchgear/steps"
)

// Check returns the error of a setup.
func Check(c Setup) api.Errno {
	checks := [...]func() api.Errno{
		func() api.Errno { _, _, e := paths.Settle(c.Plant, c.State, c.Transfers); return e },
		func() api.Errno { return steps.Legal(c.Plant, c.State, lasting(c.Task)) },
		func() api.Errno { return bank.Check(c.Bank) },
		func() api.Errno { return unless(c.Fails >= 0, api.ErrArg) },
		func() api.Errno { _, _, e := heat.Ride(c.Hall, c.Heat, c.Class, 0); return e },
		func() api.Errno { _, e := meter.Make(c.Tariff, meter.Use{}); return e },
		func() api.Errno { return unless(len(c.Disks) == len(c.Plant.Racks), api.ErrArg) },
		func() api.Errno { return unless(areDisks(c.Disks), api.ErrRange) },
	}
	for _, check := range checks {
		if e := check(); e != api.OK {
			return e
		}
	}
	return api.OK
}

// unless returns an error unless something holds.
func unless(holds bool, e api.Errno) api.Errno {
	if holds {
		return api.OK
	}
	return e
}

// areDisks reports whether racks may have these numbers of disks.
func areDisks(list []int) bool {
	return !slices.ContainsFunc(list, func(n int) bool { return n < 0 || n > MaxDisks })
}

// setting is what a house keeps of its setup: it does not change.
type setting struct {
	plant     api.Plant
	transfers []paths.Transfer
	task      steps.Task
	bank      bank.Bank
	fails     int
	hall      heat.Hall
	class     heat.Class
	heat      []int
	tariff    meter.Tariff
	key       uint64
}

// newSetting returns a setting that shares no memory with the setup.
func newSetting(c Setup) setting {
	return setting{
		plant:     twinPlant(c.Plant),
		transfers: slices.Clone(c.Transfers),
		task:      lasting(c.Task),
		bank: bank.Bank{
			Batteries:  slices.Clone(c.Bank.Batteries),
			Generators: slices.Clone(c.Bank.Generators),
		},
		fails:  c.Fails,
		hall:   twinHall(c.Hall),
		class:  heat.Class{Low: twinCase(c.Class.Low), High: twinCase(c.Class.High)},
		heat:   slices.Clone(c.Heat),
		tariff: twinTariff(c.Tariff),
		key:    c.Key,
	}
}

// lasting returns what of a task must hold all the time, in new memory: no program is sought here.
func lasting(t steps.Task) steps.Task {
	return steps.Task{Fed: slices.Clone(t.Fed), Crew: slices.Clone(t.Crew)}
}

// twinPlant returns an equal plant that shares no memory with p.
func twinPlant(p api.Plant) api.Plant {
	p.Sources = slices.Clone(p.Sources)
	p.Links = slices.Clone(p.Links)
	for i, x := range p.Links {
		p.Links[i].Trip = slices.Clone(x.Trip)
	}
	p.Racks = slices.Clone(p.Racks)
	return p
}

// twinState returns an equal state that shares no memory with s.
func twinState(s api.State) api.State {
	for _, l := range []*[]bool{&s.Closed, &s.Locked, &s.BadLink, &s.On, &s.BadSource, &s.Earthed, &s.BadBus} {
		*l = slices.Clone(*l)
	}
	return s
}

// twinHall returns an equal hall that shares no memory with h.
func twinHall(h heat.Hall) heat.Hall {
	return heat.Hall{
		Rooms:    slices.Clone(h.Rooms),
		Walls:    slices.Clone(h.Walls),
		Branches: slices.Clone(h.Branches),
		Coolers:  slices.Clone(h.Coolers),
	}
}

// twinCase returns an equal case that shares no memory with c.
func twinCase(c heat.Case) heat.Case {
	c.Load = slices.Clone(c.Load)
	return c
}

// twinTariff returns an equal tariff that shares no memory with t.
func twinTariff(t meter.Tariff) meter.Tariff {
	t.Price = slices.Clone(t.Price)
	t.Tiers = slices.Clone(t.Tiers)
	return t
}
