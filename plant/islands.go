package plant

import (
	"iter"

	"switchgear/api"
)

// Island is a set of connected buses with the sources that feed it.
type Island struct{ Buses, Sources []int }

// nowhere stands for the island of a bus that has failed.
const nowhere = -1

// Islands returns the islands.
func Islands(p api.Plant, s api.State) ([]Island, api.Errno) {
	if e := CheckState(p, s); e != api.OK {
		return nil, e
	}
	home := homes(p, s)
	place := make([]int, p.Buses)
	var list []Island
	for bus, least := range home {
		if least == nowhere {
			continue
		}
		if least == bus {
			place[bus] = len(list)
			list = append(list, Island{})
		}
		x := &list[place[least]]
		x.Buses = append(x.Buses, bus)
	}
	for source, least := range feeding(p, s, home) {
		x := &list[place[least]]
		x.Sources = append(x.Sources, source)
	}
	return list, api.OK
}

// Live returns which buses are live.
func Live(p api.Plant, s api.State) ([]bool, api.Errno) {
	if e := CheckState(p, s); e != api.OK {
		return nil, e
	}
	return liveBuses(p, s), api.OK
}

// Fed returns which feeds of racks are live.
func Fed(p api.Plant, s api.State) ([][2]bool, api.Errno) {
	if e := CheckState(p, s); e != api.OK {
		return nil, e
	}
	live := liveBuses(p, s)
	list := make([][2]bool, len(p.Racks))
	for i, x := range p.Racks {
		for k, bus := range x.Feeds {
			list[i][k] = bus >= 0 && live[bus]
		}
	}
	return list, api.OK
}

// Clashes returns the pairs of sources that clash.
func Clashes(p api.Plant, s api.State) ([][2]int, api.Errno) {
	if e := CheckState(p, s); e != api.OK {
		return nil, e
	}
	home := homes(p, s)
	var list [][2]int
	for a, islandA := range feeding(p, s, home) {
		for b, islandB := range feeding(p, s, home) {
			if a < b && islandA == islandB && !synchronous(p.Sources[a], p.Sources[b]) {
				list = append(list, [2]int{a, b})
			}
		}
	}
	return list, api.OK
}

// synchronous reports whether two sources may run in parallel.
func synchronous(a, b api.Source) bool { return a.Sync != 0 && a.Sync == b.Sync }

// liveBuses returns which buses are live in a valid state.
func liveBuses(p api.Plant, s api.State) []bool {
	home := homes(p, s)
	fed := make([]bool, p.Buses)
	for _, least := range feeding(p, s, home) {
		fed[least] = true
	}
	live := make([]bool, p.Buses)
	for bus, least := range home {
		live[bus] = least != nowhere && fed[least]
	}
	return live
}

// homes returns for each bus the least bus of its island, or nowhere.
func homes(p api.Plant, s api.State) []int {
	buses := newForest[int](p.Buses)
	for x := range conducting(p, s) {
		buses.join(x.A, x.B)
	}
	home := make([]int, p.Buses)
	for bus := range home {
		home[bus] = buses.root(bus)
		if s.BadBus[bus] {
			home[bus] = nowhere
		}
	}
	return home
}

// conducting yields the links that conduct.
func conducting(p api.Plant, s api.State) iter.Seq[api.Link] {
	return func(yield func(api.Link) bool) {
		for i, x := range p.Links {
			conducts := s.Closed[i] && !s.BadLink[i] && !s.BadBus[x.A] && !s.BadBus[x.B]
			if conducts && !yield(x) {
				return
			}
		}
	}
}

// feeding yields the sources that feed, by increasing index, each with its island.
func feeding(p api.Plant, s api.State, home []int) iter.Seq2[int, int] {
	return func(yield func(int, int) bool) {
		for i, x := range p.Sources {
			feeds := s.On[i] && !s.BadSource[i] && home[x.Bus] != nowhere
			if feeds && !yield(i, home[x.Bus]) {
				return
			}
		}
	}
}

// forest joins the numbers from 0 into sets; the least number of a set is its root.
type forest[N ~int] struct{ up []N }

func newForest[N ~int](count int) forest[N] {
	f := forest[N]{up: make([]N, count)}
	for i := range f.up {
		f.up[i] = N(i)
	}
	return f
}

// root returns the least number of the set of x.
func (f forest[N]) root(x N) N {
	for f.up[x] != x {
		x = f.up[x]
	}
	return x
}

// join makes one set of the sets of a and b.
func (f forest[N]) join(a, b N) {
	a, b = f.root(a), f.root(b)
	f.up[max(a, b)] = min(a, b)
}
