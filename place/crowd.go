package place

import (
	"maps"
	"slices"

	"switchgear/api"
)

// needs are cooling, weight and ports.
type needs [3]int

// plus returns the sum of needs.
func (n needs) plus(more needs) needs {
	for i := range n {
		n[i] += more[i]
	}
	return n
}

// isAtMost reports whether needs are at most what there is room for: then the lesser ones of both are the needs.
func (n needs) isAtMost(room needs) bool {
	lesser := n
	for i := range lesser {
		lesser[i] = min(n[i], room[i])
	}
	return lesser == n
}

// crowd has what jobs need together, and in how many of all combinations of single measurements each sum of their powers occurs.
type crowd struct {
	need         needs
	sums         map[int]int
	combinations int
}

// nobody returns a crowd of no jobs.
func nobody() crowd { return crowd{sums: map[int]int{0: 1}, combinations: 1} }

// together returns a crowd of jobs that have not too many combinations.
func together(l []Job) crowd {
	c := nobody()
	for _, j := range l {
		c = c.with(j)
	}
	return c
}

// with returns a crowd with one job more.
func (c crowd) with(j Job) crowd {
	sums := make(map[int]int, len(c.sums))
	for sum, count := range c.sums {
		for _, d := range j.Draws {
			sums[sum+d.Power] += count * d.Count
		}
	}
	return crowd{need: c.need.plus(j.Need), sums: sums, combinations: c.combinations * j.measurements()}
}

// distribution returns the sums that occur, in increasing order.
func (c crowd) distribution() []Draw {
	var list []Draw
	for _, sum := range slices.Sorted(maps.Keys(c.sums)) {
		list = append(list, Draw{Power: sum, Count: c.sums[sum]})
	}
	return list
}

// above returns in how many combinations the sum is greater than a limit.
func (c crowd) above(limit int) int {
	n := 0
	for sum, count := range c.sums {
		if sum > limit {
			n += count
		}
	}
	return n
}

// chance returns the chance that the sum is greater than a limit.
func (c crowd) chance(limit int) api.Ratio {
	above := c.above(limit)
	common := divisor(above, c.combinations)
	return api.Ratio{N: above / common, D: c.combinations / common}
}

// rarelyExceeds reports whether the chance that the sum is greater than a limit is at most most.
func (c crowd) rarelyExceeds(limit int, most api.Ratio) bool {
	// Both products fit an int: 2^40 combinations, and fractions with less than 2^20.
	return c.above(limit)*most.D <= most.N*c.combinations
}

// fits reports whether a crowd fits into a rack.
func (c crowd) fits(r Rack, most api.Ratio) bool {
	return c.need.isAtMost(r.Room) && c.rarelyExceeds(r.Cap, most)
}

// left returns what jobs leave of the room of a rack, and of its Cap if all of them draw their greatest power.
func left(r Rack, l []Job) [4]int {
	x := [4]int{r.Room[0], r.Room[1], r.Room[2], r.Cap}
	for _, j := range l {
		for i, n := range j.Need {
			x[i] -= n
		}
		x[3] -= j.Draws[len(j.Draws)-1].Power
	}
	return x
}
