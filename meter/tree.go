package meter

import (
	"iter"
	"slices"
)

// sons returns the nodes that hang on a node.
func (c Case) sons(node int) []int {
	var list []int
	for i, n := range c.Nodes {
		if n.Up == node {
			list = append(list, i)
		}
	}
	return list
}

// loss returns what may be lost behind a node.
func (c Case) loss(node int) span { return span{c.Nodes[node].Low, c.Nodes[node].High} }

// holds reports whether the balance of a node holds, if it has one.
func (c Case) holds(node int) bool {
	sons := c.sons(node)
	lost := c.Values[node]
	for _, son := range sons {
		lost -= c.Values[son]
	}
	return len(sons) == 0 || c.loss(node).has(lost)
}

// explaining returns the sets of so many nodes that explain a case, in lexicographic order.
func (c Case) explaining(size int) [][]int {
	var list [][]int
	for set := range sets(len(c.Nodes), size) {
		if c.freed(set).canHold() {
			list = append(list, set)
		}
	}
	return list
}

// sets yields the sets of so many of n nodes, in lexicographic order.
func sets(n, size int) iter.Seq[[]int] {
	return func(yield func([]int) bool) {
		set := make([]int, size)
		for i := range set {
			set[i] = i
		}
		for yield(slices.Clone(set)) {
			// The last node that can be a later one becomes the next one, and those after it follow at once.
			last := size - 1
			for last >= 0 && set[last] == n-size+last {
				last--
			}
			if last < 0 {
				return
			}
			set[last]++
			for i := last + 1; i < size; i++ {
				set[i] = set[i-1] + 1
			}
		}
	}
}

// span is the interval of the numbers from low to high; it has none if low is greater.
type span struct{ low, high int }

// has reports whether a number is in a span.
func (s span) has(n int) bool { return within(n, s.low, s.high) }

// isSome reports whether any number is in a span.
func (s span) isSome() bool { return s.low <= s.high }

// plus returns the sums of a number of one span and one of another, of which none is empty.
func (s span) plus(t span) span { return span{s.low + t.low, s.high + t.high} }

// and returns the numbers that are in both spans.
func (s span) and(t span) span { return span{max(s.low, t.low), min(s.high, t.high)} }

// tree is a case with the values that each node can have so that all balances behind it can hold.
type tree struct {
	Case
	spans []span
}

// freed returns the tree of a case in which the values of a set of nodes can be replaced.
func (c Case) freed(set []int) tree {
	t := tree{c, make([]span, len(c.Nodes))}
	for node, value := range c.Values {
		t.spans[node] = span{value, value}
	}
	for _, node := range set {
		t.spans[node] = span{0, MaxValue}
	}
	t.narrow()
	return t
}

// narrow leaves those values in the spans with which the balances behind a node can hold.
func (t tree) narrow() {
	var narrowed func(node int) span
	narrowed = func(node int) span {
		if sons := t.sons(node); len(sons) > 0 {
			sum := t.loss(node)
			for _, son := range sons {
				sum = sum.plus(narrowed(son))
			}
			t.spans[node] = t.spans[node].and(sum)
		}
		return t.spans[node]
	}
	narrowed(0)
}

// canHold reports whether all balances can hold. A span above an empty one means nothing, but the empty one stays empty.
func (t tree) canHold() bool { return all(t.spans, span.isSome) }

// repaired returns the least values with which all balances hold, of a tree in which they can.
func (t tree) repaired() []int {
	values := make([]int, len(t.Nodes))
	values[0] = t.spans[0].low
	for node := range t.Nodes {
		sons := t.sons(node)
		// What is missing, if all sons have their greatest values, so that not too much is lost.
		missing := values[node] - t.loss(node).high
		for _, son := range sons {
			missing -= t.spans[son].high
		}
		for _, son := range sons {
			// A son must bring what those after it can't.
			missing += t.spans[son].high
			values[son] = max(t.spans[son].low, missing)
			missing -= values[son]
		}
	}
	return values
}
