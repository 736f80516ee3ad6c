package bank

import (
	"iter"
	"slices"
)

// areFails reports whether a list is a list of fails of generators.
func areFails(g []Generator, fails []int) bool {
	if len(fails) != len(g) {
		return false
	}
	for i, n := range fails {
		if !within(n, 0, g[i].Tries) {
			return false
		}
	}
	return true
}

// count returns how many lists of fails generators have.
func count(g []Generator) int {
	n := 1
	for _, x := range g {
		n *= x.Tries + 1
	}
	return n
}

// lists yields the lists of fails whose sum is at most most, in lexicographic order. Each one is new memory.
func lists(g []Generator, most int) iter.Seq[[]int] {
	return func(yield func([]int) bool) {
		now := make([]int, len(g))
		for yield(slices.Clone(now)) && advance(g, now, most) {
			// The list has become the next one.
		}
	}
}

// advance turns a list of fails into the next one whose sum is at most most; false if there is none.
func advance(g []Generator, fails []int, most int) bool {
	sum := 0
	for _, n := range fails {
		sum += n
	}
	for i := len(fails) - 1; i >= 0; i-- {
		if fails[i] < g[i].Tries && sum < most {
			fails[i]++
			return true
		}
		sum -= fails[i]
		fails[i] = 0
	}
	return false
}

// worst returns the list of fails, of those whose sum is at most most, with which it becomes dark first, and what comes of it.
func worst(b Bank, load []Span, most int) ([]int, Result) {
	// The list without fails is the first one: it is the worst one if none is dark.
	list := make([]int, len(b.Generators))
	least := result(b, load, list)
search:
	for fails := range lists(b.Generators, most) {
		x := result(b, load, fails)
		switch {
		case x.Dark == 0:
			// Nothing is earlier, and what follows does not come first.
			list, least = fails, x
			break search
		case earlier(x.Dark, least.Dark):
			list, least = fails, x
		}
	}
	return list, least
}

// earlier reports whether a dark second is earlier than another one, which may be never.
func earlier(a, b int) bool { return a != never && (b == never || a < b) }
