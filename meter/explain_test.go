package meter_test

import (
	"math/rand/v2"
	"slices"
	"testing"

	"switchgear/api"
	"switchgear/meter"
)

// explains calls Explains and compares; Repair must have values if the set explains the case, and only then.
func explains(t *testing.T, name string, c meter.Case, set []int, want bool) {
	t.Helper()
	if got, e := meter.Explains(c, set); e != api.OK || got != want {
		t.Errorf("%s: %v %d, not %v: %+v %v", name, got, e, want, c, set)
	}
	values, e := meter.Repair(c, set)
	if want && (e != api.OK || len(values) != len(c.Values)) || !want && (e != api.ErrNone || len(values) > 0) {
		t.Errorf("%s: Repair: %v %d: %+v %v", name, values, e, c, set)
	}
}

// TestExplainsChapter goes through all sets of the chapter's examples.
func TestExplainsChapter(t *testing.T) {
	for bits := range 1 << 3 {
		explains(t, "example 1", chapter1(), setOf(bits), bits != 0)
	}
	for bits := range 1 << 4 {
		set := setOf(bits)
		// Without node 1 the balances hold only if the root is replaced and what hangs on node 1, or all but it.
		want := slices.Contains(set, 1) || slices.Contains(set, 0) && len(set) > 1
		explains(t, "example 2", chapter2(), set, want)
		if tellExplains(chapter2(), set) != want {
			t.Error("the test is wrong:", set)
		}
	}
}

// TestExplains has balances that can just be made to hold, and such that just can't.
func TestExplains(t *testing.T) {
	for _, x := range []struct {
		name string
		c    meter.Case
		set  []int
		want bool
	}{
		{"nothing is broken", row(3, 0, 5), nil, true},
		{"nothing is broken", row(3, 0, 5), []int{}, true},
		{"nothing is broken, all are replaced", row(3, 0, 5), []int{0, 1, 2}, true},
		{"one node", row(1, 5, 3), nil, true},
		{"one node is replaced", row(1, 5, 3), []int{0}, true},
		{"the root can be the greatest value", star(0, 9, 0, most-1, 1), []int{0}, true},
		{"the root would be too great", star(0, 9, 0, most, 1), []int{0}, false},
		{"the root would be too great, but what hangs on it can be less", star(0, 9, 0, most, 1), []int{0, 1}, true},
		{"the root would be too great by what is lost", star(1, 9, 0, most), []int{0}, false},
		{"the root can be 0", star(0, 0, 5, 0, 0), []int{0}, true},
		{"a leaf can be 0", star(0, 0, 5, 5, 1), []int{2}, true},
		{"a leaf would be below 0", star(0, 0, 5, 6, 1), []int{2}, false},
		{"a leaf can be just small enough", star(2, 4, 7, 5, 1), []int{2}, true},
		{"a leaf can't be small enough", star(2, 4, 6, 5, 1), []int{2}, false},
		{"a leaf can be the greatest value", star(0, 0, most, 0, 1), []int{1}, true},
		{"a leaf can be the greatest value, with what is lost", star(0, 0, most, 0, 0), []int{1}, true},
		{"two leaves can't be too great", star(0, 0, most, 0, 1, 1), []int{1, 2}, true},
		{"another leaf is too great", star(0, 0, 3, 4, 1, 1), []int{2, 3}, false},
		{"a node between is just right", row(3, 1, 5), []int{0, 2}, true},
		{"a node between has no value", row(3, 1, 5), []int{1}, false},
		{"a node between has one value", meter.Case{Nodes: []meter.Node{{-1, 0, 3}, {0, 0, 4}, {1, 0, 0}}, Values: []int{17, 0, 10}}, []int{1}, true},
		{"a node between would have to be greater", meter.Case{Nodes: []meter.Node{{-1, 0, 3}, {0, 0, 4}, {1, 0, 0}}, Values: []int{18, 0, 10}}, []int{1}, false},
		{"a node between has one value, with what must be lost", meter.Case{Nodes: []meter.Node{{-1, 3, 9}, {0, 4, 9}, {1, 0, 0}}, Values: []int{17, 0, 10}}, []int{1}, true},
		{"a node between would have to be less", meter.Case{Nodes: []meter.Node{{-1, 3, 9}, {0, 4, 9}, {1, 0, 0}}, Values: []int{16, 0, 10}}, []int{1}, false},
		{"a node far behind, broken", meter.Case{Nodes: []meter.Node{{-1, 0, 9}, {0, 0, 9}, {1, 0, 0}, {2, 0, 0}}, Values: []int{9, 9, 8, 7}}, []int{0, 1}, false},
		{"what is lost is too much for a broken node behind", meter.Case{Nodes: []meter.Node{{-1, 0, most}, {0, 0, 1}, {1, 0, 0}}, Values: []int{9, 9, 5}}, []int{0}, false},
		{"all are replaced, and as much as possible is lost", row(2, most, 5), []int{0, 1}, true},
		{"all are replaced, and too much would be lost", meter.Case{Nodes: []meter.Node{{-1, 1, 1}, {0, most, most}, {1, 0, 0}}, Values: []int{5, 5, 5}}, []int{0, 1, 2}, false},
		{"fourteen times too little is lost", row(14, most/13, 0), setOf(1<<14 - 1), true},
		{"fourteen times too much is lost", row(14, most/13+1, 0), setOf(1<<14 - 1), false},
		{"thirteen leaves are far too great", star(0, 0, 0, slices.Repeat([]int{most}, 13)...), []int{0}, false},
		{"the bounds of a leaf do not matter", meter.Case{Nodes: []meter.Node{{-1, 0, 0}, {0, 50, 60}}, Values: []int{5, 6}}, []int{1}, true},
		{"the bounds of a leaf do not matter, nor its value", meter.Case{Nodes: []meter.Node{{-1, 0, 0}, {0, most, most}}, Values: []int{5, 6}}, []int{0}, true},
	} {
		explains(t, x.name, x.c, x.set, x.want)
		if tellExplains(x.c, x.set) != x.want {
			t.Error("the test is wrong:", x.name)
		}
	}
}

// TestExplainsRandom compares with what can flow.
func TestExplainsRandom(t *testing.T) {
	r := rand.New(rand.NewPCG(11, 5))
	met := map[bool]int{}
	for range 20000 {
		c, _, _ := randomCase(r, 7)
		set := randomSet(r, c)
		want := tellExplains(c, set)
		explains(t, "random", c, set, want)
		if len(tellBroken(c, c.Values)) > 0 && len(set) > 0 {
			met[want]++
		}
	}
	if min(met[true], met[false]) < 1000 {
		t.Error("met:", met)
	}
}

// TestExplainsAll compares with all values from 0 to 12, for cases in which no greater ones are needed: no node behind the root can have more than it, and it needs no more than all values and bounds together.
func TestExplainsAll(t *testing.T) {
	r := rand.New(rand.NewPCG(11, 6))
	met := map[bool]int{}
	for range 300 {
		c := meter.Case{Nodes: make([]meter.Node, 1+r.IntN(4))}
		sum := 0
		for i := range c.Nodes {
			low := r.IntN(2)
			c.Nodes[i] = meter.Node{Up: r.IntN(max(i, 1)), Low: low, High: low + r.IntN(2)}
			c.Values = append(c.Values, r.IntN(5))
			sum += low + c.Values[i]
		}
		c.Nodes[0].Up = -1
		if sum > 12 {
			continue
		}
		for bits := range 1 << len(c.Nodes) {
			set := setOf(bits)
			values := slices.Clone(c.Values)
			var try func(set []int) bool
			try = func(set []int) bool {
				if len(set) == 0 {
					return len(tellBroken(c, values)) == 0
				}
				for values[set[0]] = range 13 {
					if try(set[1:]) {
						return true
					}
				}
				return false
			}
			want := try(set)
			explains(t, "all values", c, set, want)
			if tellExplains(c, set) != want {
				t.Fatal("the test is wrong:", c, set)
			}
			if want {
				// What was found first is what Repair must find.
				repair(t, "all values", c, set, values...)
			}
			met[want]++
		}
	}
	if min(met[true], met[false]) < 300 {
		t.Error("met:", met)
	}
}

// repair calls Repair and compares.
func repair(t *testing.T, name string, c meter.Case, set []int, want ...int) {
	t.Helper()
	if got, e := meter.Repair(c, set); e != api.OK || !slices.Equal(got, want) {
		t.Errorf("%s: %v %d, not %v: %+v %v", name, got, e, want, c, set)
	}
	if list := tellBroken(c, want); len(list) > 0 {
		t.Error("the test is wrong:", name, list)
	}
}

func TestRepair(t *testing.T) {
	repair(t, "example 1, the root", chapter1(), []int{0}, 110, 60, 50)
	repair(t, "example 1, node 1", chapter1(), []int{1}, 100, 45, 50)
	repair(t, "example 1, node 2", chapter1(), []int{2}, 100, 60, 35)
	repair(t, "example 1, the root and node 1", chapter1(), []int{0, 1}, 50, 0, 50)
	repair(t, "example 1, both nodes", chapter1(), []int{1, 2}, 100, 0, 95)
	repair(t, "example 1, all", chapter1(), []int{0, 1, 2}, 0, 0, 0)
	repair(t, "example 2, node 1", chapter2(), []int{1}, 100, 98, 50, 48)
	repair(t, "example 2, the root and node 1", chapter2(), []int{0, 1}, 98, 98, 50, 48)
	repair(t, "example 2, the root and node 3", chapter2(), []int{0, 3}, 80, 80, 50, 25)
	repair(t, "example 2, all but the root", chapter2(), []int{1, 2, 3}, 100, 95, 0, 90)
	repair(t, "example 2, node 1 and 2", chapter2(), []int{1, 2}, 100, 95, 42, 48)

	repair(t, "nothing is broken", row(3, 0, 5), nil, 5, 5, 5)
	repair(t, "nothing is broken, the least value all the same", star(0, 5, 100, 60, 40), []int{1}, 100, 55, 40)
	repair(t, "nothing is broken, all are replaced", row(3, 0, 5), []int{0, 1, 2}, 0, 0, 0)
	repair(t, "one node", row(1, 5, 3), nil, 3)
	repair(t, "one node is replaced", row(1, 5, 3), []int{0}, 0)
	repair(t, "what must be lost", row(4, 5, 3), []int{0, 1, 2, 3}, 15, 10, 5, 0)
	repair(t, "what must be lost, above a node that stays", row(4, 5, 8), []int{0, 1, 3}, 18, 13, 8, 3)
}

// TestRepairGreat has values at the limits, and several nodes that share what is missing.
func TestRepairGreat(t *testing.T) {
	repair(t, "a leaf at the greatest value", star(0, 0, most, 0, 0), []int{1}, most, most, 0)
	repair(t, "the root at the greatest value", star(0, 0, 0, most, 0), []int{0}, most, most, 0)
	repair(t, "the root at the greatest value, by what is lost", star(most, most, 0, 0, 0), []int{0}, most, 0, 0)
	repair(t, "the last leaves take what is missing", star(0, 0, most, 0, 0, 0), []int{1, 2, 3}, most, 0, 0, most)
	repair(t, "the first of them that stay", star(0, 0, 7, 1, 2, 3), []int{1, 2}, 7, 0, 4, 3)
	repair(t, "the last leaf can't take more", star(0, 0, 10, 0, 0, 0), []int{1, 3}, 10, 0, 0, 10)
	// Node 2 can be at most 8, as nothing may be lost behind it, and what hangs on it stays.
	c := meter.Case{Nodes: []meter.Node{{-1, 0, 1}, {0, 0, 0}, {0, 0, 3}, {2, 0, 0}}, Values: []int{20, 0, 0, 5}}
	repair(t, "a later one is at most 8", c, []int{1, 2}, 20, 11, 8, 5)
	repair(t, "a later one is at most 8, and the root is replaced", c, []int{0, 1, 2}, 5, 0, 5, 5)
	c.Values[0] = 7
	repair(t, "a later one takes all", c, []int{1, 2}, 7, 0, 6, 5)
	c.Values[0] = 9
	repair(t, "a later one takes just all", c, []int{1, 2}, 9, 0, 8, 5)
	c.Values[0] = 10
	repair(t, "a later one takes all but one", c, []int{1, 2}, 10, 1, 8, 5)
	// Siblings with others between them, and what hangs on the first comes last.
	c = meter.Case{Nodes: []meter.Node{{-1, 0, 0}, {0, 1, 2}, {0, 0, 2}, {1, 0, 0}, {0, 0, 0}, {2, 0, 0}, {1, 0, 0}}, Values: []int{50, 9, 9, 4, 9, 10, 5}}
	repair(t, "node by node", c, []int{1, 2, 4}, 50, 10, 10, 4, 30, 10, 5)
	repair(t, "node by node, without the last one", c, []int{1, 2, 3}, 50, 29, 12, 22, 9, 10, 5)
	repair(t, "node by node, with what hangs on them", c, []int{1, 2, 3, 5, 6}, 50, 1, 40, 0, 9, 38, 0)
	twice := star(0, 0, 0, slices.Repeat([]int{most}, 13)...)
	repair(t, "all at 0", twice, setOf(1<<14-1), make([]int, 14)...)
	twice.Values[0] = most
	want := make([]int, 14)
	want[0], want[13] = most, most
	repair(t, "the last of thirteen", twice, setOf(1<<14-2), want...)
	low := row(14, most/13, 9)
	for i := range want {
		want[i] = (13 - i) * (most / 13)
	}
	repair(t, "a row of what must be lost", low, setOf(1<<14-1), want...)
	explains(t, "no set", row(14, most/13+1, 9), setOf(1<<14-1), false)
}

// TestRepairRandom checks that what is not in the set stays, that all balances hold, and that no node could have less, with those before it as they are: the values that a node can have are an interval.
func TestRepairRandom(t *testing.T) {
	r := rand.New(rand.NewPCG(11, 7))
	met := map[string]int{}
	for range 20000 {
		c, _, _ := randomCase(r, 6)
		set := randomSet(r, c)
		values, e := meter.Repair(c, set)
		if e != api.OK {
			continue
		}
		if list := tellBroken(c, values); len(list) > 0 {
			t.Fatalf("%+v %v: %v: the balances of %v do not hold", c, set, values, list)
		}
		for node, v := range values {
			if !slices.Contains(set, node) && v != c.Values[node] || v < 0 || v > most {
				t.Fatalf("%+v %v: %v: node %d", c, set, values, node)
			}
		}
		now := copied(c)
		for i, node := range set {
			less := []int{values[node] - 1, values[node] / 2, 0}
			for _, v := range less {
				if now.Values[node] = v; v >= 0 && v < values[node] && tellExplains(now, set[i+1:]) {
					t.Fatalf("%+v %v: %v: node %d can have %d", c, set, values, node, v)
				}
			}
			now.Values[node] = values[node]
			switch values[node] {
			case 0:
				met["0"]++
			case most:
				met["the greatest value"]++
			case c.Values[node]:
				met["the value that it had"]++
			default:
				met["others"]++
			}
		}
	}
	for _, name := range []string{"0", "the greatest value", "the value that it had", "others"} {
		if met[name] < 100 {
			t.Error("met:", name, met[name])
		}
	}
}

// least calls Least and compares.
func least(t *testing.T, name string, c meter.Case, want ...[]int) {
	t.Helper()
	got, e := meter.Least(c)
	if len(want) == 0 && (e != api.ErrNone || len(got) > 0) || len(want) > 0 && (e != api.OK || !sameLists(got, want)) {
		t.Errorf("%s: %v %d, not %v: %+v", name, got, e, want, c)
	}
}

func TestLeast(t *testing.T) {
	least(t, "example 1", chapter1(), []int{0}, []int{1}, []int{2})
	least(t, "example 2", chapter2(), []int{1})
	least(t, "nothing is broken", row(3, 0, 5), nil)
	least(t, "one node", row(1, 5, 3), nil)
	least(t, "no set", meter.Case{Nodes: []meter.Node{{-1, 1, 1}, {0, most, most}, {1, 0, 0}}, Values: []int{5, 5, 5}})
	least(t, "no set, though nothing else is broken", meter.Case{Nodes: []meter.Node{{-1, most, most}, {0, 0, 0}, {0, 1, 1}, {2, 0, 0}}, Values: []int{5, 5, 5, 4}})
	least(t, "no set of 14 nodes", row(14, most/13+1, 9))
	least(t, "just a set of all nodes but one", row(14, most/13, 0), setOf(1<<13-1))
	least(t, "a row in which the last one can stay", row(14, 1, 0), setOf(1<<13-1))

	// In a row of a hundred each, any node can stay, but only one.
	var all [][]int
	for node := 13; node >= 0; node-- {
		all = append(all, setOf((1<<14-1)&^(1<<node)))
	}
	least(t, "a row in which any one can stay", row(14, 1, 100), all...)

	// Another node on the root of example 2 decides whether its value or those behind node 1 are false.
	two := chapter2()
	two.Nodes = append(two.Nodes, meter.Node{Up: 0, Low: 0, High: 0})
	two.Values = []int{100, 80, 50, 48, 18}
	least(t, "several sets of one node", two, []int{2}, []int{3})
	two.Values[4] = 2
	least(t, "one set of one node", two, []int{1})
	two.Values[4] = 10
	least(t, "sets of two nodes", two, []int{0, 1}, []int{0, 2}, []int{0, 3}, []int{1, 2}, []int{1, 3}, []int{1, 4}, []int{2, 4}, []int{3, 4})

	// Two subtrees that are broken each for itself.
	c := meter.Case{
		Nodes:  []meter.Node{{-1, 0, 0}, {0, 0, 0}, {0, 0, 0}, {1, 0, 0}, {2, 0, 0}, {2, 0, 0}},
		Values: []int{30, 10, 20, 11, 12, 10},
	}
	least(t, "two nodes that are broken", c, []int{3, 4}, []int{3, 5})
	c.Values[0] = 33
	least(t, "all nodes are broken", c, []int{1, 2})
	c.Values[0] = 32
	least(t, "all nodes are broken, but in other ways", c, []int{2, 3})
}

// TestLeastRandom compares with all sets.
func TestLeastRandom(t *testing.T) {
	r := rand.New(rand.NewPCG(11, 8))
	met := map[string]int{}
	for range 3000 {
		c, _, _ := randomCase(r, 6)
		want := tellLeast(c)
		least(t, "random", c, want...)
		switch {
		case len(want) == 0:
			met["none"]++
		case len(want) > 1:
			met["several"]++
		default:
			met["one"]++
		}
		if len(want) > 0 && len(want[0]) > 1 {
			met["of several nodes"]++
		}
	}
	for _, name := range []string{"none", "several", "one", "of several nodes"} {
		if met[name] < 100 {
			t.Error("met:", name, met[name])
		}
	}
}
