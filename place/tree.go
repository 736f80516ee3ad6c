package place

import "iter"

// set is a set of jobs, or of racks: bit i says whether number i is in it.
type set uint8

// one returns the set that has only one number.
func one(i int) set { return 1 << i }

// tree is the tree of a valid task whose jobs have not too many combinations.
type tree struct {
	Task
	fits [1 << MaxJobs]set // by jobs: the racks into which they fit together
}

// node is an allowed placement of the first jobs.
type node struct {
	jobs        int
	in          [MaxRacks]set
	worth, hope int
}

// grow returns the tree of a task.
func grow(t Task) *tree {
	x := &tree{Task: t}
	var meet func(jobs set, next int, c crowd)
	meet = func(jobs set, next int, c crowd) {
		x.fits[jobs] = x.racksFor(c)
		if x.fits[jobs] == 0 {
			// With more jobs they fit into none, either.
			return
		}
		for job := next; job < len(t.Jobs); job++ {
			meet(jobs|one(job), job+1, c.with(t.Jobs[job]))
		}
	}
	meet(0, 0, nobody())
	return x
}

// racksFor returns the racks into which a crowd fits.
func (x *tree) racksFor(c crowd) set {
	var racks set
	for i, r := range x.Racks {
		if c.fits(r, x.Most) {
			racks |= one(i)
		}
	}
	return racks
}

// root returns the node of no jobs.
func (x *tree) root() node {
	n := node{}
	for _, j := range x.Jobs {
		n.hope += j.Worth
	}
	return n
}

// sons yields the sons of a node, in their order. A node of all jobs has none.
func (x *tree) sons(n node) iter.Seq[node] {
	return func(yield func(node) bool) {
		if x.isFull(n) {
			return
		}
		for rack := range x.Racks {
			if x.takes(n, rack) && !yield(x.placed(n, rack)) {
				return
			}
		}
		yield(x.leftOut(n))
	}
}

// isFull reports whether a node is of all jobs.
func (x *tree) isFull(n node) bool { return n.jobs == len(x.Jobs) }

// takes reports whether a rack takes the next job, too.
func (x *tree) takes(n node, rack int) bool {
	if x.fits[n.in[rack]|one(n.jobs)]&one(rack) == 0 {
		return false
	}
	for job := range n.jobs {
		if x.clash(n.jobs, rack, job, n.rackOf(job)) {
			return false
		}
	}
	return true
}

// placed returns a node with the next job in a rack.
func (x *tree) placed(n node, rack int) node {
	n.worth += x.Jobs[n.jobs].Worth
	n.in[rack] |= one(n.jobs)
	n.jobs++
	return n
}

// leftOut returns a node with the next job in no rack.
func (x *tree) leftOut(n node) node {
	n.hope -= x.Jobs[n.jobs].Worth
	n.jobs++
	return n
}

// rackOf returns the rack of a job, or none.
func (n node) rackOf(job int) int {
	for rack, jobs := range n.in {
		if jobs&one(job) != 0 {
			return rack
		}
	}
	return none
}

// where returns a node as a placement of its jobs.
func (n node) where() []int {
	list := make([]int, n.jobs)
	for job := range list {
		list[job] = n.rackOf(job)
	}
	return list
}

// best returns the first node of all jobs that is worth most.
func (x *tree) best() node {
	best := node{worth: -1}
	var visit func(n node)
	visit = func(n node) {
		switch {
		case n.hope <= best.worth:
			// What comes of it is worth no more, and comes later.
		case x.isFull(n):
			best = n
		default:
			for son := range x.sons(n) {
				visit(son)
			}
		}
	}
	visit(x.root())
	return best
}

// proof returns the proof that no placement is worth more than most, if that is so: it cuts off all that may be cut off.
func (x *tree) proof(most int) []bool {
	var list []bool
	var visit func(n node)
	visit = func(n node) {
		cut := n.hope <= most
		list = append(list, cut)
		if cut {
			return
		}
		for son := range x.sons(n) {
			visit(son)
		}
	}
	visit(x.root())
	return list
}

// proves reports whether a list is a proof that no placement is worth more than most.
func (x *tree) proves(proof []bool, most int) bool {
	var visit func(n node) bool
	visit = func(n node) bool {
		if len(proof) == 0 {
			return false
		}
		cut := proof[0]
		proof = proof[1:]
		if cut || x.isFull(n) {
			// The hope of a node of all jobs is its worth.
			return n.hope <= most
		}
		for son := range x.sons(n) {
			if !visit(son) {
				return false
			}
		}
		return true
	}
	return visit(x.root()) && len(proof) == 0
}
