package flow

import (
	"cmp"
	"iter"
	"slices"

	"switchgear/api"
	"switchgear/plant"
)

// millivolts divided by milliohms are amperes.
const millivolts = 400000

// Short is the current of a source at a short circuit.
type Short struct {
	Source, Ohm, Amps int
	Links             []int
}

// Shorts returns the currents of a short circuit at a bus.
func Shorts(p api.Plant, s api.State, bus int) ([]Short, api.Errno) {
	islands, e := plant.Islands(p, s)
	if e != api.OK {
		return nil, e
	}
	if !within(bus, 0, p.Buses-1) {
		return nil, api.ErrArg
	}
	c := circuit{p, s}
	var list []Short
	for _, x := range islands {
		if !slices.Contains(x.Buses, bus) {
			continue
		}
		for _, source := range x.Sources {
			w := c.ways(source)[bus]
			list = append(list, Short{Source: source, Ohm: w.ohm, Amps: (millivolts + w.ohm - 1) / w.ohm, Links: w.links})
		}
	}
	return list, api.OK
}

// Through returns the current through each link.
func Through(p api.Plant, l []Short) ([]int, api.Errno) {
	if e := plant.Check(p); e != api.OK {
		return nil, e
	}
	strange := func(link int) bool { return !within(link, 0, len(p.Links)-1) }
	wrong := func(x Short) bool {
		return !within(x.Amps, 0, api.MaxAmps) || slices.ContainsFunc(x.Links, strange)
	}
	if len(l) > api.MaxSources || slices.ContainsFunc(l, wrong) {
		return nil, api.ErrArg
	}
	list := make([]int, len(p.Links))
	for link := range list {
		for _, x := range l {
			if slices.Contains(x.Links, link) {
				list[link] += x.Amps
			}
		}
	}
	return list, api.OK
}

// way is a way from a source to a bus.
type way struct {
	ohm   int
	links []int
}

// ways returns the short way from a source to each bus that it reaches.
func (c circuit) ways(source int) map[int]way {
	shorter := func(a, b way) bool {
		return cmp.Or(cmp.Compare(a.ohm, b.ohm), cmp.Compare(len(a.links), len(b.links)), slices.Compare(a.links, b.links)) < 0
	}
	x := c.plant.Sources[source]
	best := map[int]way{x.Bus: {ohm: x.Ohm}}
	var waiting queue[int]
	waiting.put(x.Bus)
	for at, ok := waiting.take(); ok; at, ok = waiting.take() {
		// A bus that gets a shorter way waits again. No way meets a bus twice, as each link makes it longer.
		for next, link := range c.neighbours(at) {
			w := best[at].with(link, c.plant.Links[link].Ohm)
			if old, met := best[next]; !met || shorter(w, old) {
				best[next] = w
				waiting.put(next)
			}
		}
	}
	return best
}

// with returns the way that goes on over a link.
func (w way) with(link, ohm int) way {
	return way{w.ohm + ohm, append(slices.Clone(w.links), link)}
}

// neighbours yields the buses to which a link that conducts leads from a bus, each with this link.
func (c circuit) neighbours(bus int) iter.Seq2[int, int] {
	return func(yield func(int, int) bool) {
		for i, x := range c.plant.Links {
			if x.B == bus {
				x.A, x.B = x.B, x.A
			}
			if x.A == bus && c.carry(i) > 0 && !yield(x.B, i) {
				return
			}
		}
	}
}
