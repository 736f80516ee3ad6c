package place_test

import (
	"math/rand/v2"
	"slices"
	"testing"

	"switchgear/api"
	"switchgear/place"
)

// Fractions for the greatest chance of capping.
var (
	never  = api.Ratio{N: 0, D: 1}
	always = api.Ratio{N: 1, D: 1}
	tenth  = api.Ratio{N: 1, D: 10}
)

// job returns a job that needs nothing: powers, each with its count.
func job(worth int, numbers ...int) place.Job {
	j := place.Job{Worth: worth}
	for pair := range slices.Chunk(numbers, 2) {
		j.Draws = append(j.Draws, place.Draw{Power: pair[0], Count: pair[1]})
	}
	return j
}

// needing returns a job that needs so much of each kind.
func needing(n int, j place.Job) place.Job {
	j.Need = [3]int{n, n, n}
	return j
}

// grouped returns a job of a group.
func grouped(group int, j place.Job) place.Job {
	j.Group = group
	return j
}

// wide returns a job that needs nothing and has so many measurements, at most 512.
func wide(measurements int) place.Job {
	j := place.Job{Worth: 1}
	for i := 0; measurements > 0; i++ {
		count := min(measurements, 64)
		j.Draws = append(j.Draws, place.Draw{Power: i, Count: count})
		measurements -= count
	}
	return j
}

// wides returns wide jobs.
func wides(measurements ...int) []place.Job {
	var l []place.Job
	for _, n := range measurements {
		l = append(l, wide(n))
	}
	return l
}

// chapter returns a job as in the chapter's examples.
func chapter() place.Job { return needing(1, job(5, 100, 3, 200, 1)) }

// jobs returns a job some times.
func jobs(n int, j place.Job) []place.Job {
	var l []place.Job
	for range n {
		j.Draws = slices.Clone(j.Draws)
		l = append(l, j)
	}
	return l
}

// rack returns a rack with so much room of each kind.
func rack(room, most, domain int) place.Rack {
	return place.Rack{Room: [3]int{room, room, room}, Cap: most, Domain: domain}
}

// racks returns so many racks for which nothing is too much, each one of a domain of its own.
func racks(n int) []place.Rack {
	var l []place.Rack
	for i := range n {
		l = append(l, rack(place.MaxNeed, place.MaxCap, i))
	}
	return l
}

// example returns the task of the chapter's second example.
func example() place.Task {
	return place.Task{Jobs: jobs(3, chapter()), Racks: []place.Rack{rack(3, 400, 0)}, Most: tenth}
}

// copiedJobs returns equal jobs that share no memory with l.
func copiedJobs(l []place.Job) []place.Job {
	l = slices.Clone(l)
	for i := range l {
		l[i].Draws = slices.Clone(l[i].Draws)
	}
	return l
}

// copied returns an equal task that shares no memory with t.
func copied(t place.Task) place.Task {
	t.Jobs, t.Racks = copiedJobs(t.Jobs), slices.Clone(t.Racks)
	return t
}

// sameJobs reports whether jobs are equal.
func sameJobs(a, b []place.Job) bool {
	return slices.EqualFunc(a, b, func(x, y place.Job) bool {
		return x.Need == y.Need && slices.Equal(x.Draws, y.Draws) && x.Group == y.Group && x.Worth == y.Worth
	})
}

// sameTask reports whether tasks are equal.
func sameTask(a, b place.Task) bool {
	return sameJobs(a.Jobs, b.Jobs) && slices.Equal(a.Racks, b.Racks) && a.Most == b.Most
}

// samePlaced reports whether placements with proofs are equal.
func samePlaced(a, b place.Placed) bool {
	return slices.Equal(a.Where, b.Where) && a.Worth == b.Worth && slices.Equal(a.Proof, b.Proof)
}

// tellSums returns how often each sum occurs, and how many combinations there are: it goes through all of them.
func tellSums(l []place.Job) (map[int]int, int) {
	counts, all := map[int]int{}, 0
	var add func(l []place.Job, sum int)
	add = func(l []place.Job, sum int) {
		if len(l) == 0 {
			counts[sum]++
			all++
			return
		}
		for _, d := range l[0].Draws {
			for range d.Count {
				add(l[1:], sum+d.Power)
			}
		}
	}
	add(l, 0)
	return counts, all
}

// tellAbove returns in how many combinations the sum is greater than a limit, and how many there are.
func tellAbove(l []place.Job, limit int) (int, int) {
	counts, all := tellSums(l)
	above := 0
	for sum, count := range counts {
		if sum > limit {
			above += count
		}
	}
	return above, all
}

// tellFits reports whether jobs fit into a rack, by the chapter's words.
func tellFits(l []place.Job, r place.Rack, most api.Ratio) bool {
	for kind := range 3 {
		sum := 0
		for _, j := range l {
			sum += j.Need[kind]
		}
		if sum > r.Room[kind] {
			return false
		}
	}
	above, all := tellAbove(l, r.Cap)
	return above*most.D <= most.N*all
}

// inRack returns the jobs of a rack.
func inRack(t place.Task, where []int, rack int) []place.Job {
	var l []place.Job
	for i, w := range where {
		if w == rack {
			l = append(l, t.Jobs[i])
		}
	}
	return l
}

// tellAllowed reports whether a placement of all jobs, or of the first ones, is allowed, by the chapter's words.
func tellAllowed(t place.Task, where []int) bool {
	for i, a := range where {
		for k, b := range where {
			if i != k && a >= 0 && b >= 0 && t.Jobs[i].Group > 0 && t.Jobs[i].Group == t.Jobs[k].Group && t.Racks[a].Domain == t.Racks[b].Domain {
				return false
			}
		}
	}
	for rack := range t.Racks {
		if !tellFits(inRack(t, where, rack), t.Racks[rack], t.Most) {
			return false
		}
	}
	return true
}

// tellWorth returns the worth of a placement.
func tellWorth(t place.Task, where []int) int {
	worth := 0
	for i, w := range where {
		if w >= 0 {
			worth += t.Jobs[i].Worth
		}
	}
	return worth
}

// placements returns all placements of the first n jobs, allowed or not, in the order of the tree.
func placements(t place.Task, n int) [][]int {
	if n == 0 {
		return [][]int{nil}
	}
	var list [][]int
	for _, first := range placements(t, n-1) {
		for rack := range t.Racks {
			list = append(list, append(slices.Clone(first), rack))
		}
		list = append(list, append(slices.Clone(first), -1))
	}
	return list
}

// tellBest returns the first of all allowed placements that are worth most.
func tellBest(t place.Task) []int {
	var best []int
	most := -1
	for _, where := range placements(t, len(t.Jobs)) {
		if worth := tellWorth(t, where); worth > most && tellAllowed(t, where) {
			best, most = where, worth
		}
	}
	return best
}

// tellSons returns the sons of a node.
func tellSons(t place.Task, where []int) [][]int {
	if len(where) == len(t.Jobs) {
		return nil
	}
	var list [][]int
	for rack := range len(t.Racks) + 1 {
		if rack == len(t.Racks) {
			rack = -1
		}
		if son := append(slices.Clone(where), rack); tellAllowed(t, son) {
			list = append(list, son)
		}
	}
	return list
}

// tellHope returns the hope of a node.
func tellHope(t place.Task, where []int) int {
	hope := tellWorth(t, where)
	for _, j := range t.Jobs[len(where):] {
		hope += j.Worth
	}
	return hope
}

// tellProof returns a right proof if no placement is worth more than w: cuts says of each node that may be cut off whether it is.
func tellProof(t place.Task, where []int, w int, cuts func() bool) []bool {
	if tellHope(t, where) <= w && cuts() {
		return []bool{true}
	}
	proof := []bool{false}
	for _, son := range tellSons(t, where) {
		proof = append(proof, tellProof(t, son, w, cuts)...)
	}
	return proof
}

// proofOf returns the proof that cuts off all that may be cut off.
func proofOf(t place.Task, w int) []bool {
	return tellProof(t, nil, w, func() bool { return true })
}

// longProof returns the proof that cuts off nothing.
func longProof(t place.Task) []bool {
	return tellProof(t, nil, 0, func() bool { return false })
}

// tellRest returns what a proof has left after a node and all below it, and whether it was right until there.
func tellRest(t place.Task, where []int, proof []bool, w int) ([]bool, bool) {
	if len(proof) == 0 {
		return nil, false
	}
	cut, rest := proof[0], proof[1:]
	if cut {
		return rest, tellHope(t, where) <= w
	}
	if len(where) == len(t.Jobs) {
		return rest, tellWorth(t, where) <= w
	}
	for _, son := range tellSons(t, where) {
		var ok bool
		if rest, ok = tellRest(t, son, rest, w); !ok {
			return nil, false
		}
	}
	return rest, true
}

// tellProves reports whether a list is a proof that no placement is worth more than w.
func tellProves(t place.Task, proof []bool, w int) bool {
	rest, ok := tellRest(t, nil, proof, w)
	return ok && len(rest) == 0
}

// tellVerify returns what Verify should return for a valid task.
func tellVerify(t place.Task, p place.Placed) api.Errno {
	if len(p.Where) != len(t.Jobs) {
		return api.ErrPlace
	}
	for _, w := range p.Where {
		if w < -1 || w >= len(t.Racks) {
			return api.ErrPlace
		}
	}
	if !tellAllowed(t, p.Where) {
		return api.ErrPlace
	}
	if tellWorth(t, p.Where) != p.Worth || !tellProves(t, p.Proof, p.Worth) {
		return api.ErrFalse
	}
	return api.OK
}

// best returns what Best returns for a task, which must have no error.
func best(t *testing.T, task place.Task) place.Placed {
	t.Helper()
	p, e := place.Best(task)
	if e != api.OK {
		t.Fatalf("Best: error %d: %+v", e, task)
	}
	return p
}

// from returns a number from low to high.
func from(r *rand.Rand, low, high int) int { return low + r.IntN(high-low+1) }

// randomJob returns a valid job with few measurements, whose powers are few, too.
func randomJob(r *rand.Rand) place.Job {
	j := place.Job{Group: max(0, from(r, -2, 2)), Worth: from(r, 0, 4)}
	for kind := range j.Need {
		j.Need[kind] = from(r, 0, 2)
	}
	power := from(r, 0, 2)
	for range from(r, 1, 3) {
		j.Draws = append(j.Draws, place.Draw{Power: power, Count: from(r, 1, 3)})
		power += from(r, 1, 3)
	}
	return j
}

// randomJobs returns at most so many random jobs.
func randomJobs(r *rand.Rand, most int) []place.Job {
	var l []place.Job
	for range from(r, 0, most) {
		l = append(l, randomJob(r))
	}
	return l
}

// randomRack returns a rack that has room for some random jobs.
func randomRack(r *rand.Rand) place.Rack {
	return place.Rack{Room: [3]int{from(r, 1, 6), from(r, 1, 6), from(r, 1, 6)}, Cap: from(r, 2, 16), Domain: from(r, 0, 2)}
}

// randomMost returns a fraction that is allowed.
func randomMost(r *rand.Rand) api.Ratio {
	list := []api.Ratio{never, always, tenth, {N: 1, D: 2}, {N: 1, D: 3}, {N: 1, D: 4}, {N: 5, D: 18}, {N: 1, D: 1000000}, {N: 999999, D: 1000000}}
	return list[r.IntN(len(list))]
}

// randomTask returns a valid task with at most so many jobs and racks.
func randomTask(r *rand.Rand, jobs, racks int) place.Task {
	t := place.Task{Jobs: randomJobs(r, jobs), Most: randomMost(r)}
	for range from(r, 1, racks) {
		t.Racks = append(t.Racks, randomRack(r))
	}
	return t
}

// randomWhere returns a placement, allowed or not.
func randomWhere(r *rand.Rand, t place.Task) []int {
	where := make([]int, len(t.Jobs))
	for i := range where {
		where[i] = from(r, -1, len(t.Racks)-1)
	}
	return where
}
