package meter

import (
	"slices"

	"switchgear/api"
)

// checkSet returns the error of a case with a set of its nodes.
func checkSet(c Case, set []int) api.Errno {
	if e := Check(c); e != api.OK {
		return e
	}
	if !c.hasSet(set) {
		return api.ErrArg
	}
	return api.OK
}

// isRight reports whether the numbers of a reading are allowed.
func (x Reading) isRight() bool {
	return within(x.Meter, 0, MaxMeters-1) && within(x.Hour, 0, MaxValue) && within(x.Value, 0, MaxValue)
}

// hasRightNode reports whether a node and its value are allowed.
func (c Case) hasRightNode(node int) bool {
	n := c.Nodes[node]
	return c.hangsRightly(node) && within(n.High, 0, MaxValue) && within(n.Low, 0, n.High) && within(c.Values[node], 0, MaxValue)
}

// hangsRightly reports whether a node hangs on an earlier one, or on none if it is the root.
func (c Case) hangsRightly(node int) bool {
	up := c.Nodes[node].Up
	if node == 0 {
		return up == -1
	}
	return within(up, 0, node-1)
}

// hasSet reports whether a list has nodes of a case, in strictly increasing order.
func (c Case) hasSet(set []int) bool {
	least := 0
	for _, node := range set {
		if !within(node, least, len(c.Nodes)-1) {
			return false
		}
		least = node + 1
	}
	return true
}

// isRight reports whether the numbers of a tariff are allowed.
func (t Tariff) isRight() bool {
	rightPrice := func(n int) bool { return within(n, 0, maxPrice) }
	return all(t.Price, rightPrice) && within(t.Base, 0, MaxValue) && areRight(t.Tiers) && within(t.Credit, 0, maxPercent)
}

// areRight reports whether tiers are allowed and in order.
func areRight(l []Tier) bool {
	least := Tier{}
	for _, x := range l {
		if !within(x.Minutes, least.Minutes, maxMinutes) || !within(x.Percent, least.Percent, maxPercent) {
			return false
		}
		least = Tier{Minutes: x.Minutes + 1, Percent: x.Percent}
	}
	return true
}

// isRight reports whether the numbers of a use are allowed.
func (u Use) isRight() bool {
	rightValue := func(n int) bool { return within(n, 0, maxUsed) }
	return all(u.Values, rightValue) && within(u.Out, 0, maxMinutes)
}

// within reports whether n is from low to high.
func within(n, low, high int) bool { return n >= low && n <= high }

// all reports whether each element of a list is right.
func all[T any](list []T, right func(T) bool) bool {
	return !slices.ContainsFunc(list, func(x T) bool { return !right(x) })
}
