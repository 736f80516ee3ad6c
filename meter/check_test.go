package meter_test

import (
	"cmp"
	"math"
	"math/rand/v2"
	"slices"
	"testing"

	"switchgear/api"
	"switchgear/meter"
)

// every compares the errors of all functions for a case with one that all should be. All nodes may be replaced, so that there are values with which the balances hold, if there are any at all.
func every(t *testing.T, name string, c meter.Case, want api.Errno) {
	t.Helper()
	set := setOf(1<<min(len(c.Nodes), meter.MaxNodes) - 1)
	_, ofBroken := meter.Broken(c)
	_, ofExplains := meter.Explains(c, set)
	for call, e := range map[string]api.Errno{"Check": meter.Check(c), "Broken": ofBroken, "Explains": ofExplains} {
		if e != want {
			t.Errorf("%s, %s: %d, not %d: %+v", call, name, e, want, c)
		}
	}
	_, ofRepair := meter.Repair(c, set)
	_, ofLeast := meter.Least(c)
	for call, e := range map[string]api.Errno{"Repair": ofRepair, "Least": ofLeast} {
		if e != want && (want != api.OK || e != api.ErrNone) {
			t.Errorf("%s, %s: %d, not %d: %+v", call, name, e, want, c)
		}
	}
}

// TestManyNodes has no node, 14 nodes and 15, with values for all of them, for fewer and for more.
func TestManyNodes(t *testing.T) {
	for n, want := range map[int]api.Errno{0: api.ErrMany, 1: api.OK, 2: api.OK, 13: api.OK, 14: api.OK, 15: api.ErrMany, 16: api.ErrMany, 1000: api.ErrMany} {
		// Too many nodes matter before what is wrong with the values, and these before what is wrong with a node.
		every(t, "a row", row(n, 0, 5), want)
		wrong := row(n, 0, 5)
		for i := range n {
			wrong.Nodes[i] = meter.Node{Up: 99, Low: -1, High: -2}
			every(t, "wrong nodes", wrong, cmp.Or(want, api.ErrRange))
		}
		for _, values := range []int{0, 1, n - 2, n - 1, n + 1, n + 2, 100} {
			if values != n && values >= 0 {
				c := row(n, 0, 5)
				c.Values = make([]int, values)
				every(t, "values", c, cmp.Or(want, api.ErrArg))
				c.Nodes = wrong.Nodes
				every(t, "values and wrong nodes", c, cmp.Or(want, api.ErrArg))
				c.Values = slices.Repeat([]int{-1}, values)
				every(t, "wrong values and wrong nodes", c, cmp.Or(want, api.ErrArg))
			}
		}
	}
	every(t, "a star of 14", star(0, 0, 0, make([]int, 13)...), api.OK)
	every(t, "a star of 15", star(0, 0, 0, make([]int, 14)...), api.ErrMany)
	every(t, "nothing", meter.Case{}, api.ErrMany)
	every(t, "empty lists", meter.Case{Nodes: []meter.Node{}, Values: []int{}}, api.ErrMany)
	every(t, "a value without a node", meter.Case{Values: []int{1}}, api.ErrMany)
	every(t, "a node without a value", meter.Case{Nodes: []meter.Node{{Up: -1}}}, api.ErrArg)
	every(t, "a node without a value", meter.Case{Nodes: []meter.Node{{Up: -1}}, Values: []int{}}, api.ErrArg)
}

// TestUp has nodes that hang on each other one, on themselves, and on none.
func TestUp(t *testing.T) {
	for _, n := range []int{1, 2, 5, 14} {
		for node := range n {
			low, high := 0, node-1
			if node == 0 {
				low, high = -1, -1
			}
			for up, want := range (bound{"Up", low, high}).around() {
				c := row(n, 0, 5)
				c.Nodes[node].Up = up
				every(t, "Up", c, want)
			}
			for up := -3; up < n+3; up++ {
				c := row(n, 0, 5)
				c.Nodes[node].Up = up
				want := api.ErrRange
				if up >= low && up <= high {
					want = api.OK
				}
				every(t, "Up", c, want)
			}
		}
	}
}

// TestNodeNumbers has each number of a node at its limits and beyond, for the root and for others, of which some have others behind them.
func TestNodeNumbers(t *testing.T) {
	sets := map[bound]func(c *meter.Case, node, n int){
		{"Low", 0, most}:                func(c *meter.Case, node, n int) { c.Nodes[node].Low, c.Nodes[node].High = n, most },
		{"Low below High", 0, 70}:       func(c *meter.Case, node, n int) { c.Nodes[node].Low, c.Nodes[node].High = n, 70 },
		{"Low at High 0", 0, 0}:         func(c *meter.Case, node, n int) { c.Nodes[node].Low, c.Nodes[node].High = n, 0 },
		{"High", 0, most}:               func(c *meter.Case, node, n int) { c.Nodes[node].Low, c.Nodes[node].High = 0, n },
		{"High above Low", 70, most}:    func(c *meter.Case, node, n int) { c.Nodes[node].Low, c.Nodes[node].High = 70, n },
		{"High at the end", most, most}: func(c *meter.Case, node, n int) { c.Nodes[node].Low, c.Nodes[node].High = most, n },
		{"Low and High", 0, most}:       func(c *meter.Case, node, n int) { c.Nodes[node].Low, c.Nodes[node].High = n, n },
		{"value", 0, most}:              func(c *meter.Case, node, n int) { c.Values[node] = n },
	}
	for b, set := range sets {
		for n, want := range b.around() {
			for _, c := range []meter.Case{row(1, 0, 5), row(3, 0, 5), star(0, 5, 5, 1, 2, 0), chapter2()} {
				for node := range c.Nodes {
					x := copied(c)
					set(&x, node, n)
					every(t, b.name, x, want)
				}
			}
		}
	}
	both := chapter1()
	both.Nodes[1], both.Values[2] = meter.Node{Up: 0, Low: 3, High: 2}, -1
	every(t, "two wrong nodes", both, api.ErrRange)
}

// broken calls Broken and compares.
func broken(t *testing.T, name string, c meter.Case, want ...int) {
	t.Helper()
	if got, e := meter.Broken(c); e != api.OK || !slices.Equal(got, want) {
		t.Errorf("%s: %v %d, not %v: %+v", name, got, e, want, c)
	}
}

func TestBroken(t *testing.T) {
	broken(t, "example 1", chapter1(), 0)
	broken(t, "example 2", chapter2(), 0, 1)
	broken(t, "one node", row(1, 9, 3))
	broken(t, "one node, nothing", row(1, 0, 0))
	for lost, holds := range map[int]bool{4: false, 5: true, 6: true, 8: true, 9: true, 10: false, 0: false, -5: false, -9: false, 100: false} {
		var root, son []int
		if !holds {
			root, son = []int{0}, []int{1}
		}
		broken(t, "the root", star(5, 9, 100+lost, 40, 60), root...)
		c := chapter2()
		c.Nodes[0], c.Nodes[1] = meter.Node{-1, 7, 7}, meter.Node{0, 5, 9}
		c.Values = []int{57 + lost, 50 + lost, 20, 30}
		broken(t, "a son", c, son...)
	}
	for lost, holds := range map[int]bool{-1: false, 0: true, 1: false} {
		c := row(5, 0, 20)
		var want []int
		if !holds {
			want = []int{1, 2}
		}
		c.Values = []int{20 + 2*lost, 20 + 2*lost, 20 + lost, 20, 20}
		broken(t, "nothing may be lost", c, want...)
	}
	broken(t, "all are broken", row(14, 1, 7), 0, 1, 2, 3, 4, 5, 6, 7, 8, 9, 10, 11, 12)
	broken(t, "none is broken", row(14, 0, 7))
	broken(t, "as much as possible", star(most, most, most, 0, 0))
	broken(t, "one too little", star(most, most, most-1, 0, 0), 0)
	broken(t, "far below 0", star(0, most, 0, slices.Repeat([]int{most}, 13)...), 0)
	leaf := star(0, 0, 6, 1, 2, 3)
	for node := 1; node < 4; node++ {
		leaf.Nodes[node] = meter.Node{Up: 0, Low: 50, High: 60}
	}
	broken(t, "the bounds of what nothing hangs on", leaf)
	leaf.Values[3]--
	broken(t, "the bounds of what nothing hangs on", leaf, 0)
}

// TestBrokenRandom compares with the chapter's words.
func TestBrokenRandom(t *testing.T) {
	r := rand.New(rand.NewPCG(11, 4))
	met := map[int]int{}
	for range 20000 {
		c, _, _ := randomCase(r, 14)
		want := tellBroken(c, c.Values)
		broken(t, "random", c, want...)
		met[min(len(want), 3)]++
	}
	for n := range 4 {
		if met[n] < 1000 {
			t.Error("met:", n, met[n])
		}
	}
}

// TestSets has lists of nodes that are sets, and others.
func TestSets(t *testing.T) {
	c := chapter2()
	four := []struct {
		set  []int
		want api.Errno
	}{
		{nil, api.OK}, {[]int{}, api.OK}, {[]int{0}, api.OK}, {[]int{3}, api.OK}, {[]int{0, 3}, api.OK}, {[]int{1, 2, 3}, api.OK}, {[]int{0, 1, 2, 3}, api.OK},
		{[]int{1, 0}, api.ErrArg}, {[]int{3, 2}, api.ErrArg}, {[]int{0, 2, 1}, api.ErrArg}, {[]int{3, 2, 1, 0}, api.ErrArg}, {[]int{1, 2, 3, 0}, api.ErrArg},
		{[]int{0, 0}, api.ErrArg}, {[]int{1, 1}, api.ErrArg}, {[]int{3, 3}, api.ErrArg}, {[]int{0, 1, 1, 2}, api.ErrArg}, {[]int{0, 1, 2, 3, 3}, api.ErrArg}, {make([]int, 1000), api.ErrArg},
		{[]int{4}, api.ErrArg}, {[]int{0, 4}, api.ErrArg}, {[]int{0, 1, 2, 3, 4}, api.ErrArg}, {[]int{14}, api.ErrArg}, {[]int{math.MaxInt}, api.ErrArg}, {[]int{1 << 32}, api.ErrArg},
		{[]int{-1}, api.ErrArg}, {[]int{-1, 0}, api.ErrArg}, {[]int{-2, 1}, api.ErrArg}, {[]int{math.MinInt}, api.ErrArg}, {[]int{math.MinInt, math.MaxInt}, api.ErrArg},
	}
	for _, x := range four {
		ok, ofExplains := meter.Explains(c, x.set)
		l, ofRepair := meter.Repair(c, x.set)
		if ofExplains != x.want || x.want != api.OK && (ok || ofRepair != x.want || len(l) > 0) {
			t.Error(x.set, ok, ofExplains, l, ofRepair)
		}
		if ok != (ofRepair == api.OK) || !ok && x.want == api.OK && ofRepair != api.ErrNone {
			t.Error(x.set, ok, ofExplains, l, ofRepair)
		}
	}
	// A number may be a node of one case, and of another one not.
	for n := 1; n <= 14; n++ {
		for node := range 16 {
			want := api.OK
			if node >= n {
				want = api.ErrArg
			}
			if _, e := meter.Explains(row(n, 0, 0), []int{node}); e != want {
				t.Error(n, node, e)
			}
			if _, e := meter.Repair(row(n, 0, 0), []int{node}); e != want {
				t.Error(n, node, e)
			}
		}
	}
}
