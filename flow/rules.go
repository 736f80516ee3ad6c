package flow

// rule says what holds in a possible serving for each number below count.
type rule struct {
	count int
	holds func(i int) bool
}

// possible reports whether a serving is possible.
func (c circuit) possible(x Serving) bool {
	if len(x.Sources) != len(c.plant.Sources) || len(x.Links) != len(c.plant.Links) || len(x.Racks) != len(c.plant.Racks) {
		return false
	}
	for _, r := range c.rules(x) {
		for i := range r.count {
			if !r.holds(i) {
				return false
			}
		}
	}
	return true
}

// rules returns the rules of a serving that has all its numbers. The balance of buses comes last: with numbers that break the rules before it, its sums might not fit an int.
func (c circuit) rules(x Serving) []rule {
	return []rule{
		{len(x.Sources), func(i int) bool { return within(x.Sources[i], 0, c.supply(i)) }},
		{len(x.Links), func(i int) bool { return within(x.Links[i], -c.carry(i), c.carry(i)) }},
		{len(x.Racks), func(i int) bool { return c.bearable(i, x.Racks[i]) }},
		{c.plant.Buses, func(i int) bool { return c.surplus(x, i) == 0 }},
	}
}

// within reports whether n is from low to high.
func within(n, low, high int) bool { return n >= low && n <= high }

// bearable reports whether a rack can draw this from its feeds.
func (c circuit) bearable(rack int, draws [2]int) bool {
	for feed, power := range draws {
		if !within(power, 0, c.draw(rack, feed)) {
			return false
		}
	}
	return draws[0]+draws[1] <= c.plant.Racks[rack].Power
}

// surplus returns what sources and links bring to a bus, less what links carry away and what racks draw.
func (c circuit) surplus(x Serving, bus int) int {
	sum := 0
	for i, source := range c.plant.Sources {
		if source.Bus == bus {
			sum += x.Sources[i]
		}
	}
	for i, link := range c.plant.Links {
		switch bus {
		case link.A:
			sum -= x.Links[i]
		case link.B:
			sum += x.Links[i]
		}
	}
	for i, rack := range c.plant.Racks {
		for feed, at := range rack.Feeds {
			if at == bus {
				sum -= x.Racks[i][feed]
			}
		}
	}
	return sum
}
