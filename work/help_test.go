package work_test

import (
	"math/rand/v2"
	"slices"
	"testing"

	"switchgear/api"
	"switchgear/paths"
	"switchgear/plant"
	"switchgear/work"
)

// chapter is the plant of the chapter's examples; its last breaker is open in them.
const chapter = `plant 4
source 0 grid 500 0 20
source 1 grid 500 0 20
link 0 2 breaker 400 10
link 1 3 breaker 400 10
link 2 3 breaker 400 10
rack 2 3 100 2
`

// mesh has three grids, of which the last one feeds both buses of the rack.
const mesh = `plant 5
source 0 grid 500 1 20
source 1 grid 500 1 20
source 2 grid 500 1 20
link 0 3 breaker 400 10
link 1 4 breaker 400 10
link 2 3 breaker 400 10
link 2 4 breaker 400 10
rack 3 4 100 2
`

// relay is the transfer of the chapter's plant.
var relay = paths.Transfer{Watch: 3, Open: 1, Close: 2}

// bus, source and link return parts.
func bus(i int) api.Part    { return api.Part{Kind: api.BusPart, Index: i} }
func source(i int) api.Part { return api.Part{Kind: api.SourcePart, Index: i} }
func link(i int) api.Part   { return api.Part{Kind: api.LinkPart, Index: i} }

// parsed returns the plant of a text, and the state in which all sources are on and all links closed but for some.
func parsed(text string, open ...int) (api.Plant, api.State) {
	p, _, e := plant.Parse(text)
	if e != api.OK {
		panic(text)
	}
	s := start(p)
	for _, i := range open {
		s.Closed[i] = false
	}
	return p, s
}

// start returns the state in which all sources are on and all links closed.
func start(p api.Plant) api.State {
	s, _ := plant.Initial(p)
	for _, l := range [][]bool{s.On, s.Closed} {
		for i := range l {
			l[i] = true
		}
	}
	return s
}

// job returns a job that takes parts out for some hours, from 0 to 48, with one of the people.
func job(hours int, parts ...api.Part) work.Job {
	return work.Job{Parts: parts, Hours: hours, To: work.MaxHours, People: 1}
}

// within returns a job with another window.
func within(x work.Job, from, to int) work.Job {
	x.From, x.To = from, to
	return x
}

// after returns a job that must come after others.
func after(x work.Job, jobs ...int) work.Job {
	x.After = jobs
	return x
}

// crew returns a job with so many people.
func crew(x work.Job, people int) work.Job {
	x.People = people
	return x
}

// example returns the yard of the chapter's examples.
func example() work.Yard {
	p, s := parsed(chapter, 2)
	jobs := []work.Job{crew(within(job(2, link(0)), 0, 10), 2), crew(within(job(3, link(1)), 0, 10), 2)}
	return work.Yard{Plant: p, State: s, Jobs: jobs, People: 10}
}

// yardOf returns a yard with many people, without redundancy and transfers.
func yardOf(p api.Plant, s api.State, jobs ...work.Job) work.Yard {
	return work.Yard{Plant: p, State: s, Jobs: jobs, People: 1000}
}

// meshed returns a yard of the plant mesh, with a job for each link and one for the last grid.
func meshed() work.Yard {
	p, s := parsed(mesh)
	return yardOf(p, s, job(1, link(0)), job(1, link(1)), job(1, link(2)), job(1, link(3)), job(1, source(2)))
}

// free returns a yard in which no rack hangs on anything: jobs of these hours, which take out a bus each.
func free(jobs ...work.Job) work.Yard {
	p := api.Plant{Buses: work.MaxJobs}
	for i := range jobs {
		jobs[i].Parts = []api.Part{bus(i)}
	}
	return yardOf(p, start(p), jobs...)
}

// alone returns a yard in which no two jobs can run together.
func alone(jobs ...work.Job) work.Yard {
	y := free(jobs...)
	for i := range jobs {
		jobs[i].People = 10
	}
	y.People = 19
	return y
}

// with returns a yard with a change; its jobs are its own.
func with(y work.Yard, change func(y *work.Yard)) work.Yard {
	y = copied(y)
	change(&y)
	return y
}

// copied returns an equal yard that shares no memory with y.
func copied(y work.Yard) work.Yard {
	y.Plant = copiedPlant(y.Plant)
	y.State = copiedState(y.State)
	y.Transfers = slices.Clone(y.Transfers)
	y.Jobs = slices.Clone(y.Jobs)
	for i := range y.Jobs {
		x := &y.Jobs[i]
		x.Parts, x.After = slices.Clone(x.Parts), slices.Clone(x.After)
	}
	return y
}

func copiedPlant(p api.Plant) api.Plant {
	p.Sources, p.Links, p.Racks = slices.Clone(p.Sources), slices.Clone(p.Links), slices.Clone(p.Racks)
	for i := range p.Links {
		p.Links[i].Trip = slices.Clone(p.Links[i].Trip)
	}
	return p
}

func copiedState(s api.State) api.State {
	for _, l := range lists(&s) {
		*l = slices.Clone(*l)
	}
	return s
}

// lists returns the lists of a state, so that each can be changed in place.
func lists(s *api.State) []*[]bool {
	return []*[]bool{&s.Closed, &s.Locked, &s.BadLink, &s.On, &s.BadSource, &s.Earthed, &s.BadBus}
}

// sameYard reports whether two yards are equal.
func sameYard(a, b work.Yard) bool {
	x, y := lists(&a.State), lists(&b.State)
	for i := range x {
		if !slices.Equal(*x[i], *y[i]) {
			return false
		}
	}
	sameJob := func(a, b work.Job) bool {
		return slices.Equal(a.Parts, b.Parts) && slices.Equal(a.After, b.After) &&
			a.Hours == b.Hours && a.From == b.From && a.To == b.To && a.People == b.People
	}
	sameLink := func(a, b api.Link) bool {
		return a.A == b.A && a.B == b.B && a.Kind == b.Kind && a.Most == b.Most && a.Ohm == b.Ohm && slices.Equal(a.Trip, b.Trip)
	}
	return a.Plant.Buses == b.Plant.Buses && slices.Equal(a.Plant.Sources, b.Plant.Sources) &&
		slices.EqualFunc(a.Plant.Links, b.Plant.Links, sameLink) && slices.Equal(a.Plant.Racks, b.Plant.Racks) &&
		slices.Equal(a.Transfers, b.Transfers) && slices.EqualFunc(a.Jobs, b.Jobs, sameJob) &&
		a.People == b.People && a.Redundant == b.Redundant
}

// sameLists reports whether two lists of lists are equal.
func sameLists(a, b [][]int) bool { return slices.EqualFunc(a, b, slices.Equal[[]int]) }

// wholeParts returns the parts that have not failed.
func wholeParts(p api.Plant, s api.State) []api.Part {
	parts, _ := plant.Parts(p)
	return slices.DeleteFunc(parts, func(x api.Part) bool {
		return map[api.PartKind][]bool{api.BusPart: s.BadBus, api.SourcePart: s.BadSource, api.LinkPart: s.BadLink}[x.Kind][x.Index]
	})
}

// partsBy returns the parts of some jobs.
func partsBy(y work.Yard, jobs []int) []api.Part {
	var list []api.Part
	for _, j := range jobs {
		list = append(list, y.Jobs[j].Parts...)
	}
	return list
}

// fedBy reports whether each rack with one of these numbers of promised paths is fed after some parts have failed.
func fedBy(t *testing.T, y work.Yard, parts []api.Part, promised ...int) bool {
	t.Helper()
	s, e := paths.After(y.Plant, y.State, y.Transfers, parts)
	if e != api.OK {
		t.Fatal("After:", parts, e)
	}
	fed, _ := plant.Fed(y.Plant, s)
	for rack, live := range fed {
		if slices.Contains(promised, y.Plant.Racks[rack].Paths) && !live[0] && !live[1] {
			return false
		}
	}
	return true
}

// sufficesBy reports whether people and feeds suffice for some jobs, by the chapter's words, whatever is so for fewer of them.
func sufficesBy(t *testing.T, y work.Yard, jobs []int) bool {
	t.Helper()
	people, taken := 0, map[api.Part]int{}
	for _, j := range jobs {
		people += y.Jobs[j].People
		for _, x := range y.Jobs[j].Parts {
			taken[x]++
			if taken[x] > 1 {
				return false
			}
		}
	}
	parts := partsBy(y, jobs)
	if people > y.People || !fedBy(t, y, parts, 1, 2) {
		return false
	}
	for _, x := range wholeParts(y.Plant, y.State) {
		if y.Redundant && taken[x] == 0 && !fedBy(t, y, append(slices.Clone(parts), x), 2) {
			return false
		}
	}
	return true
}

// subsets returns all lists of the numbers below n, each in increasing order; that of the numbers whose bits are set stands at each place.
func subsets(n int) [][]int {
	all := make([][]int, 1<<n)
	for bits := range all {
		for i := range n {
			if bits>>i&1 == 1 {
				all[bits] = append(all[bits], i)
			}
		}
	}
	return all
}

// bits returns the number whose bits are those of a list.
func bits(list []int) int {
	n := 0
	for _, i := range list {
		n |= 1 << i
	}
	return n
}

// bearableBy returns for all sets of jobs, by their bits, whether they are bearable, by the chapter's words.
func bearableBy(t *testing.T, y work.Yard) []bool {
	t.Helper()
	sets := subsets(len(y.Jobs))
	suffices, bearable := make([]bool, len(sets)), make([]bool, len(sets))
	for set, jobs := range sets {
		suffices[set] = set > 0 && sufficesBy(t, y, jobs)
	}
	for set := range sets {
		bearable[set] = true
		for part := 1; part <= set; part++ {
			if part&^set == 0 && !suffices[part] {
				bearable[set] = false
			}
		}
	}
	return bearable
}

// loadBy returns the jobs that run in an hour.
func loadBy(y work.Yard, starts []int, hour int) []int {
	var list []int
	for j, x := range y.Jobs {
		if starts[j] <= hour && starts[j]+x.Hours > hour {
			list = append(list, j)
		}
	}
	return list
}

// verifyBy returns the end of a plan with a start for each job, or its error, by the chapter's words; the sets of jobs that are bearable are known.
func verifyBy(y work.Yard, starts []int, bearable []bool) (int, api.Errno) {
	end := 0
	for j, x := range y.Jobs {
		if starts[j] < x.From || starts[j]+x.Hours > x.To {
			return 0, api.ErrTime
		}
		for _, k := range x.After {
			if starts[k]+y.Jobs[k].Hours > starts[j] {
				return 0, api.ErrTime
			}
		}
		end = max(end, starts[j]+x.Hours)
	}
	for hour := range end {
		if !bearable[bits(loadBy(y, starts, hour))] {
			return hour, api.ErrPlan
		}
	}
	return end, api.OK
}

// eachPlan calls a function with all lists of starts with which each job stays within its window, in lexicographic order.
func eachPlan(y work.Yard, use func(starts []int)) {
	starts := make([]int, len(y.Jobs))
	var fill func(j int)
	fill = func(j int) {
		if j == len(starts) {
			use(starts)
			return
		}
		x := y.Jobs[j]
		for starts[j] = x.From; starts[j]+x.Hours <= x.To; starts[j]++ {
			fill(j + 1)
		}
	}
	fill(0)
}

// from returns a number from low to high.
func from(r *rand.Rand, low, high int) int { return low + r.IntN(high-low+1) }

// randomPlant returns a valid plant with few buses, in which most racks have some paths.
func randomPlant(r *rand.Rand) api.Plant {
	p := api.Plant{Buses: from(r, 3, 7)}
	for range from(r, 2, 4) {
		p.Sources = append(p.Sources, api.Source{Bus: r.IntN(p.Buses), Kind: api.Grid, Power: 1, Sync: []int{0, 1, 1, 1, 2}[r.IntN(5)], Ohm: 10})
	}
	add := func(a, b int) {
		kind := []api.LinkKind{api.Cable, api.Switch, api.Breaker, api.Breaker}[r.IntN(4)]
		p.Links = append(p.Links, api.Link{A: a, B: b, Kind: kind, Most: 1, Ohm: 10})
	}
	for a := 1; a < p.Buses; a++ {
		add(a, r.IntN(a))
	}
	for range from(r, 1, p.Buses) {
		a := r.IntN(p.Buses)
		add(a, (a+from(r, 1, p.Buses-1))%p.Buses)
	}
	for range from(r, 1, 3) {
		x := api.Rack{Feeds: [2]int{r.IntN(p.Buses), -1}, Power: 1}
		x.Paths = from(r, 0, 1)
		if r.IntN(4) > 0 {
			x.Feeds[1] = (x.Feeds[0] + from(r, 1, p.Buses-1)) % p.Buses
			x.Paths = min(from(r, 0, 4), 2)
		}
		p.Racks = append(p.Racks, x)
	}
	return p
}

// randomState returns a valid state in which most sources are on and most links closed, some are locked, and few parts have failed.
func randomState(r *rand.Rand, p api.Plant) api.State {
	s := start(p)
	often := func(percent int) bool { return r.IntN(100) < percent }
	for i := range s.On {
		s.On[i], s.BadSource[i] = often(95), often(3)
	}
	for i, x := range p.Links {
		movable := x.Kind != api.Cable
		s.Closed[i], s.Locked[i], s.BadLink[i] = !movable || often(80), movable && often(5), often(3)
	}
	for i := range s.BadBus {
		s.BadBus[i], s.Earthed[i] = often(2), often(12)
	}
	return s
}

// randomTransfers returns some transfers of a plant.
func randomTransfers(r *rand.Rand, p api.Plant) []paths.Transfer {
	var links []int
	for i, x := range p.Links {
		if x.Kind != api.Cable {
			links = append(links, i)
		}
	}
	var l []paths.Transfer
	for range min(r.IntN(9), len(links)) {
		x := paths.Transfer{Watch: r.IntN(p.Buses), Open: -1, Close: links[r.IntN(len(links))]}
		if open := links[r.IntN(len(links))]; open != x.Close && r.IntN(3) == 0 {
			x.Open = open
		}
		l = append(l, x)
	}
	return l
}

// randomJob returns a right job for a place, with a window that is at most slack hours longer than it.
func randomJob(r *rand.Rand, parts []api.Part, place, slack int) work.Job {
	x := work.Job{Hours: from(r, 1, 4), From: r.IntN(4), People: from(r, 1, 20)}
	x.To = x.From + x.Hours + r.IntN(slack+1)
	for _, i := range r.Perm(len(parts))[:from(r, 1, 2)] {
		x.Parts = append(x.Parts, parts[i])
	}
	for k := range place {
		if r.IntN(6) == 0 {
			x.After = append(x.After, k)
		}
	}
	r.Shuffle(len(x.After), func(i, k int) { x.After[i], x.After[k] = x.After[k], x.After[i] })
	return x
}

// randomYard returns a right yard, with at most most jobs.
func randomYard(r *rand.Rand, most, slack int) work.Yard {
	y := work.Yard{Plant: randomPlant(r), People: from(r, 15, 80), Redundant: r.IntN(3) == 0}
	y.State = randomState(r, y.Plant)
	y.Transfers = randomTransfers(r, y.Plant)
	parts, _ := plant.Parts(y.Plant)
	for place := range min(from(r, 0, most+1), most) {
		y.Jobs = append(y.Jobs, randomJob(r, parts, place, slack))
	}
	return y
}
