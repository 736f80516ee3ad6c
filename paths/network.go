package paths

import (
	"slices"

	"switchgear/api"
)

// The nodes of a network: two for each bus, and then the entry and the exit of all paths.
const (
	entry = 2*api.MaxBuses + iota
	exit
	nodes
)

// before returns the first node of a bus, to which arcs lead.
// From there only the bus itself leads on, to its second node, so that no two paths pass the same bus.
func before(bus int) int { return 2 * bus }

// behind returns the second node of a bus, from which arcs go on.
func behind(bus int) int { return 2*bus + 1 }

// network has for each node the arcs that a path can take from it: the nodes to which they lead, each with its part of the plant.
type network struct{ arcs [nodes]map[int]api.Part }

// newNetwork returns the network of a rack in a valid state: its paths from the entry to the exit are the ways of the rack.
func newNetwork(p api.Plant, s api.State, rack int) *network {
	n := &network{}
	for node := range n.arcs {
		n.arcs[node] = map[int]api.Part{}
	}
	add := func(from, to int, x api.Part) {
		if usable(s, x) {
			n.arcs[from][to] = x
		}
	}
	for i := range p.Buses {
		add(before(i), behind(i), api.Part{Kind: api.BusPart, Index: i})
	}
	for i, x := range p.Sources {
		add(entry, before(x.Bus), api.Part{Kind: api.SourcePart, Index: i})
	}
	for i, x := range p.Links {
		part := api.Part{Kind: api.LinkPart, Index: i}
		add(behind(x.A), before(x.B), part)
		add(behind(x.B), before(x.A), part)
	}
	for _, bus := range p.Racks[rack].Feeds {
		if bus != none {
			n.arcs[behind(bus)][exit] = api.Part{}
		}
	}
	return n
}

// ways returns disjoint ways, as many as there are.
func (n *network) ways() [][]api.Part {
	for n.widen() {
		// Each round takes in one more path.
	}
	var list [][]api.Part
	for last := range nodes {
		if _, taken := n.arcs[exit][last]; taken {
			list = append(list, n.back(last))
		}
	}
	return list
}

// widen takes in one more path from the entry to the exit, and reports whether there was one.
// The arcs that it takes are turned: a later path that goes back over one gives it back, and the two paths exchange the rest of their ways.
func (n *network) widen() bool {
	var met [nodes]bool
	var search func(at int) bool
	search = func(at int) bool {
		met[at] = true
		if at == exit {
			return true
		}
		for next := range nodes {
			x, leads := n.arcs[at][next]
			if leads && !met[next] && search(next) {
				delete(n.arcs[at], next)
				n.arcs[next][at] = x
				return true
			}
		}
		return false
	}
	return search(entry)
}

// back returns the way that was taken and ends at a second node: turned arcs lead back from there to the entry.
func (n *network) back(last int) []api.Part {
	var way []api.Part
	at := last
	for at != entry {
		first := at - 1
		way = append(way, n.arcs[at][first])
		// The arc of the bus is turned, so that the only one from its first node is the turned one of the part before.
		for from, x := range n.arcs[first] {
			way = append(way, x)
			at = from
		}
	}
	slices.Reverse(way)
	return way
}

// usable reports whether a way can have a part in a valid state: it exists, has not failed, and is on if it is a source, closed if it is a link.
// A source feeds and a link conducts just if the buses have not failed, too, which stand beside them in a way.
func usable(s api.State, x api.Part) bool {
	bad := failed(s, x.Kind)
	if !isIndex(x.Index, len(bad)) || bad[x.Index] {
		return false
	}
	switch x.Kind {
	case api.SourcePart:
		return s.On[x.Index]
	case api.LinkPart:
		return s.Closed[x.Index]
	}
	return true
}

// isWay reports whether a list is a way of a rack in a valid state.
func isWay(p api.Plant, s api.State, rack int, way []api.Part) bool {
	if len(way) == 0 || len(way)%2 != 0 || slices.ContainsFunc(way, func(x api.Part) bool { return !usable(s, x) }) {
		return false
	}
	at := none
	var met [api.MaxBuses]bool
	for step := range slices.Chunk(way, 2) {
		to := leads(p, at, step[0])
		if to == none || met[to] || step[1] != (api.Part{Kind: api.BusPart, Index: to}) {
			return false
		}
		met[to] = true
		at = to
	}
	return slices.Contains(p.Racks[rack].Feeds[:], at)
}

// leads returns the bus to which a part of the plant leads: a source at the beginning, a link from a bus to its other end. Other parts lead to none.
func leads(p api.Plant, from int, x api.Part) int {
	switch {
	case x.Kind == api.SourcePart && from == none:
		return p.Sources[x.Index].Bus
	case x.Kind == api.LinkPart && from == p.Links[x.Index].A:
		return p.Links[x.Index].B
	case x.Kind == api.LinkPart && from == p.Links[x.Index].B:
		return p.Links[x.Index].A
	}
	return none
}
