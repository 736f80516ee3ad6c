package flow

import "iter"

// arc goes from one node of a network to another; the index tells apart arcs between the same nodes.
type arc struct{ from, to, index int }

// turned returns the arc in the other direction.
func (a arc) turned() arc { return arc{a.to, a.from, a.index} }

// network says how much each arc has room for. Its nodes are the buses, the racks, the entry of all power and its exit.
// What flows through an arc takes its room, and gives as much to the arc in the other direction.
type network struct {
	buses, entry, exit int
	leaving            [][]arc
	room               map[arc]int
}

// serve returns a serving with the greatest amount and the least cut.
func (c circuit) serve() (Serving, []bool) {
	n := c.network()
	reached := n.fill()
	// No cut of the least capacity can leave out what still has room for more from the entry.
	cut := make([]bool, n.buses)
	for bus := range cut {
		_, cut[bus] = reached[bus]
	}
	return c.serving(n), cut
}

// network returns the network of a circuit through which nothing flows.
func (c circuit) network() network {
	buses, racks := c.plant.Buses, len(c.plant.Racks)
	n := network{
		buses:   buses,
		entry:   buses + racks,
		exit:    buses + racks + 1,
		leaving: make([][]arc, buses+racks+2),
		room:    map[arc]int{},
	}
	for i := range c.plant.Sources {
		n.add(c.sourceArc(n, i), c.supply(i), 0)
	}
	for i := range c.plant.Links {
		n.add(c.linkArc(i), c.carry(i), c.carry(i))
	}
	for i, x := range c.plant.Racks {
		for feed := range x.Feeds {
			if most := c.draw(i, feed); most > 0 {
				n.add(c.feedArc(n, i, feed), most, 0)
			}
		}
		n.add(arc{n.buses + i, n.exit, i}, x.Power, 0)
	}
	return n
}

// sourceArc returns the arc through which a source gives.
func (c circuit) sourceArc(n network, source int) arc {
	return arc{n.entry, c.plant.Sources[source].Bus, source}
}

// linkArc returns the arc of a link from A to B.
func (c circuit) linkArc(link int) arc {
	x := c.plant.Links[link]
	return arc{x.A, x.B, link}
}

// feedArc returns the arc through which a rack draws from a feed.
func (c circuit) feedArc(n network, rack, feed int) arc {
	return arc{c.plant.Racks[rack].Feeds[feed], n.buses + rack, feed}
}

// serving returns what flows through a network of the circuit.
func (c circuit) serving(n network) Serving {
	x := Serving{
		Sources: make([]int, len(c.plant.Sources)),
		Links:   make([]int, len(c.plant.Links)),
		Racks:   make([][2]int, len(c.plant.Racks)),
	}
	for i := range x.Sources {
		x.Sources[i] = n.room[c.sourceArc(n, i).turned()]
	}
	for i := range x.Links {
		x.Links[i] = c.carry(i) - n.room[c.linkArc(i)]
	}
	for i := range x.Racks {
		for feed := range x.Racks[i] {
			// A feed that cannot be drawn from has no arc, and so no room.
			x.Racks[i][feed] = n.room[c.feedArc(n, i, feed).turned()]
		}
	}
	return x
}

// add adds an arc with so much room forth and back.
func (n network) add(a arc, forth, back int) {
	n.leaving[a.from] = append(n.leaving[a.from], a)
	n.leaving[a.to] = append(n.leaving[a.to], a.turned())
	n.room[a], n.room[a.turned()] = forth, back
}

// fill lets flow as much as can from the entry to the exit, and returns the nodes to which more could flow then.
func (n network) fill() map[int]arc {
	for {
		by := n.search()
		if _, found := by[n.exit]; !found {
			return by
		}
		n.push(by)
	}
}

// search returns the nodes that are reached from the entry over arcs with room, each with the arc by which it was met first; it ends with the exit.
// As it meets the nearest nodes first, the number of searches is bounded whatever the powers are.
func (n network) search() map[int]arc {
	by := map[int]arc{n.entry: {}}
	var waiting queue[int]
	waiting.put(n.entry)
search:
	for at, ok := waiting.take(); ok; at, ok = waiting.take() {
		for next, a := range n.open(at) {
			if _, met := by[next]; met {
				continue
			}
			by[next] = a
			if next == n.exit {
				break search
			}
			waiting.put(next)
		}
	}
	return by
}

// open yields the nodes to which an arc with room leads from a node, each with this arc.
func (n network) open(from int) iter.Seq2[int, arc] {
	return func(yield func(int, arc) bool) {
		for _, a := range n.leaving[from] {
			if n.room[a] > 0 && !yield(a.to, a) {
				return
			}
		}
	}
}

// push lets flow as much as has room on all arcs by which the exit was reached.
func (n network) push(by map[int]arc) {
	least := n.room[by[n.exit]]
	for node := n.exit; node != n.entry; node = by[node].from {
		least = min(least, n.room[by[node]])
	}
	for node := n.exit; node != n.entry; node = by[node].from {
		n.room[by[node]] -= least
		n.room[by[node].turned()] += least
	}
}
