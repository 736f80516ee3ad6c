package house

import (
	"iter"
	"slices"

	"switchgear/api"
	"switchgear/flow"
	"switchgear/meter"
	"switchgear/plant"
)

// House is a house.
type House struct {
	// self tells the houses that were returned from zero values, and from copies of their own making.
	self *House
	setting
	present
}

// present is what orders change. They replace its lists or append to them, but change none in place: so an earlier present stays as it was.
type present struct {
	now      api.State
	rows     []Row
	readings []meter.Reading
	out      []int
	disks    []int
	retired  []bool
}

// newHouse returns a house for a setup that is right.
func newHouse(c Setup) *House {
	racks := len(c.Plant.Racks)
	h := &House{
		setting: newSetting(c),
		present: present{now: c.State, out: make([]int, racks), disks: slices.Clone(c.Disks), retired: make([]bool, racks)},
	}
	h.self = h
	// Settling makes the state one of the house's own, too.
	h.settle(api.OK)
	return h
}

// isOpen reports whether a house was returned by Open or Run.
func (h *House) isOpen() bool { return h != nil && h.self == h }

// hasRack reports whether there is such a rack.
func (h *House) hasRack(rack int) bool { return rack >= 0 && rack < len(h.plant.Racks) }

// inUse yields the racks that are not retired, by increasing index.
func (h *House) inUse() iter.Seq2[int, api.Rack] {
	return func(yield func(int, api.Rack) bool) {
		for rack, x := range h.plant.Racks {
			if !h.retired[rack] && !yield(rack, x) {
				return
			}
		}
	}
}

// fed returns for each rack whether it is fed.
func (h *House) fed() []bool {
	// The state is valid, so that there is no error.
	feeds, _ := plant.Fed(h.plant, h.now)
	list := make([]bool, len(feeds))
	for rack, live := range feeds {
		list[rack] = live[0] || live[1]
	}
	return list
}

// turned returns the racks in use that are not fed but were, and those that are fed and were not.
func (h *House) turned(was []bool) (dark, lit []int) {
	is := h.fed()
	for rack := range h.inUse() {
		switch {
		case was[rack] && !is[rack]:
			dark = append(dark, rack)
		case is[rack] && !was[rack]:
			lit = append(lit, rack)
		}
	}
	return dark, lit
}

// load returns the power of all racks in use that are fed.
func (h *House) load() int {
	fed, sum := h.fed(), 0
	for rack, x := range h.inUse() {
		if fed[rack] {
			sum += x.Power
		}
	}
	return sum
}

// served returns the greatest amount that the racks in use can get.
func (h *House) served() int {
	p := h.plant
	p.Racks = nil
	for _, x := range h.inUse() {
		p.Racks = append(p.Racks, x)
	}
	return amount(p, h.now)
}

// amount returns the greatest amount of a plant in a valid state.
func amount(p api.Plant, s api.State) int {
	x, _, _ := flow.Serve(p, s)
	return flow.Amount(x)
}

// supply returns the power of all sources that can give it.
func (h *House) supply() int {
	sum := 0
	for i, x := range h.plant.Sources {
		if h.now.On[i] && !h.now.BadSource[i] && !h.now.BadBus[x.Bus] {
			sum += x.Power
		}
	}
	return sum
}

// use returns what a rack has used in all hours. One that was retired has no readings: it has used nothing then.
func (h *House) use(rack int) meter.Use {
	values := make([]int, len(h.rows))
	for _, r := range h.readings {
		if r.Meter == rack {
			values[r.Hour] = r.Value
		}
	}
	return meter.Use{Values: values, Out: h.out[rack]}
}
