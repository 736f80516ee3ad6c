package place_test

import (
	"math/rand/v2"
	"slices"
	"testing"

	"switchgear/api"
	"switchgear/place"
)

// Short names for the values of proofs.
const (
	yes = true
	no  = false
)

// bests calls Best and compares; what it returns must be right.
func bests(t *testing.T, name string, task place.Task, where []int, worth int, proof ...bool) {
	t.Helper()
	p := best(t, task)
	if want := (place.Placed{Where: where, Worth: worth, Proof: proof}); !samePlaced(p, want) {
		t.Errorf("%s: %v, not %v", name, p, want)
	}
	if e := place.Verify(task, p); e != api.OK {
		t.Errorf("%s: Verify: %d: %v", name, e, p)
	}
}

// TestBestChapter has the chapter's second and third examples.
func TestBestChapter(t *testing.T) {
	bests(t, "example 2", example(), []int{0, 0, -1}, 10, no, no, no, yes, yes, yes)
	task := place.Task{Jobs: jobs(2, grouped(1, job(1, 1, 1))), Racks: []place.Rack{rack(0, 10, 7), rack(0, 10, 7)}, Most: never}
	bests(t, "example 3", task, []int{0, -1}, 1, no, no, yes, no, yes, yes)
	task.Jobs[1].Worth = 2
	bests(t, "example 3, the second job is worth more", task, []int{-1, 0}, 2, no, no, yes, no, yes, yes)
	task.Racks[1].Domain = 8
	bests(t, "example 3, with another domain", task, []int{0, 1}, 3, yes)
	task = example()
	task.Most = api.Ratio{N: 5, D: 32}
	bests(t, "example 2, with the chance that is just most", task, []int{0, 0, 0}, 15, yes)
	task = example()
	task.Most = api.Ratio{N: 156249, D: 1000000}
	bests(t, "example 2, with a little less", task, []int{0, 0, -1}, 10, no, no, no, yes, yes, yes)
}

func TestBest(t *testing.T) {
	bests(t, "no job", place.Task{Racks: racks(1), Most: never}, nil, 0, yes)
	bests(t, "no job, five racks", place.Task{Jobs: []place.Job{}, Racks: racks(5), Most: always}, nil, 0, yes)
	bests(t, "one job", place.Task{Jobs: jobs(1, job(7, 1, 1)), Racks: racks(1), Most: never}, []int{0}, 7, yes)
	bests(t, "one job, two racks", place.Task{Jobs: jobs(1, job(7, 1, 1)), Racks: racks(2), Most: never}, []int{0}, 7, yes)
	none := place.Task{Jobs: jobs(1, needing(2, job(7, 1, 1))), Racks: []place.Rack{rack(1, 100, 0)}, Most: never}
	bests(t, "one job that does not fit", none, []int{-1}, 0, no, yes)
	second := place.Task{Jobs: jobs(1, needing(2, job(7, 1, 1))), Racks: []place.Rack{rack(1, 100, 0), rack(2, 100, 0), rack(3, 100, 0)}, Most: never}
	bests(t, "one job that does not fit into the first rack", second, []int{1}, 7, yes)

	// Jobs that are worth 0 are placed all the same, if they fit: none comes last.
	bests(t, "worth 0", place.Task{Jobs: jobs(3, job(0, 1, 1)), Racks: racks(3), Most: never}, []int{0, 0, 0}, 0, yes)
	bests(t, "worth 0, and one does not fit", place.Task{Jobs: jobs(3, job(0, 1, 1)), Racks: []place.Rack{rack(0, 2, 0)}, Most: never}, []int{0, 0, -1}, 0, yes)
	// One that is worth 0 must not take the place of one that is worth something.
	l := []place.Job{job(0, 1, 1), job(1, 1, 1)}
	bests(t, "worth 0, in the way", place.Task{Jobs: l, Racks: []place.Rack{rack(0, 1, 0)}, Most: never}, []int{-1, 0}, 1, yes)
	bests(t, "worth 0, in another rack", place.Task{Jobs: l, Racks: []place.Rack{rack(0, 1, 0), rack(0, 1, 0)}, Most: never}, []int{0, 1}, 1, yes)

	// Several placements are worth most.
	l = []place.Job{job(2, 1, 1), job(1, 1, 1), job(1, 1, 1)}
	bests(t, "one for two", place.Task{Jobs: []place.Job{job(2, 2, 1), l[1], l[2]}, Racks: []place.Rack{rack(0, 2, 0)}, Most: never}, []int{0, -1, -1}, 2, no, no, no, yes, yes)
	bests(t, "two for one", place.Task{Jobs: []place.Job{l[1], job(2, 2, 1), l[2]}, Racks: []place.Rack{rack(0, 2, 0)}, Most: never}, []int{0, -1, 0}, 2, no, no, yes, no, no, yes, yes)
	bests(t, "which of three", place.Task{Jobs: jobs(3, job(4, 1, 1)), Racks: []place.Rack{rack(0, 1, 0), rack(0, 1, 1)}, Most: never}, []int{0, 1, -1}, 8,
		no, no, no, yes, yes, no, no, yes, yes, yes)
	// A greater job goes into the second rack, so that the others have the first one.
	l = []place.Job{needing(1, job(5, 1, 1)), needing(3, job(5, 1, 1))}
	bests(t, "the first job gives way", place.Task{Jobs: l, Racks: []place.Rack{rack(3, 10, 0), rack(2, 10, 1)}, Most: never}, []int{1, 0}, 10, yes)
	bests(t, "much for one", place.Task{Jobs: []place.Job{job(3, 1, 1), job(3, 1, 1), job(7, 2, 1)}, Racks: []place.Rack{rack(0, 2, 0)}, Most: never}, []int{-1, -1, 0}, 7, no, no, no, yes, no, yes, no, no, yes, yes)
	great := place.Task{Jobs: jobs(8, job(1000000, 1000, 1)), Racks: racks(5), Most: never}
	bests(t, "the greatest worth", great, make([]int, 8), 8000000, yes)
	for i := range great.Racks {
		great.Racks[i].Cap = 1000
	}
	if p := best(t, great); !slices.Equal(p.Where, []int{0, 1, 2, 3, 4, -1, -1, -1}) || p.Worth != 5000000 {
		t.Error("one for each rack", p.Where, p.Worth)
	}
}

// TestBestGroups has jobs of one group that get a domain each.
func TestBestGroups(t *testing.T) {
	task := place.Task{Jobs: jobs(3, grouped(1, job(1, 1, 1))), Racks: racks(4), Most: never}
	bests(t, "four domains", task, []int{0, 1, 2}, 3, yes)
	task.Racks[1].Domain = 0
	bests(t, "three domains", task, []int{0, 2, 3}, 3, yes)
	task.Racks[2].Domain = 3
	bests(t, "two domains", task, []int{0, 2, -1}, 2,
		no,
		no, no, yes, no, yes, yes,
		no, no, yes, no, yes, yes,
		no, no, yes, no, yes, yes,
		no, no, yes, no, yes, yes,
		yes)
	task.Jobs[1].Group = 2
	bests(t, "another group", task, []int{0, 0, 2}, 3, yes)
	task.Jobs[1].Group = 1
	for i := range task.Jobs {
		task.Jobs[i].Group = 0
	}
	bests(t, "group 0", task, []int{0, 0, 0}, 3, yes)
}

// TestBestRandom compares with all placements, and with the chapter's words for the proof.
func TestBestRandom(t *testing.T) {
	r := rand.New(rand.NewPCG(9, 4))
	met := map[string]int{}
	for range 2500 {
		task := randomTask(r, 5, 3)
		where := tellBest(task)
		worth := tellWorth(task, where)
		bests(t, "random", task, where, worth, proofOf(task, worth)...)
		all := tellHope(task, nil)
		if slices.Contains(where, -1) {
			met["some are left out"]++
		}
		if worth < all {
			met["not all is worth"]++
		}
		if worth == all && slices.Max(append(where, 0)) > 0 {
			met["all, in several racks"]++
		}
		if len(proofOf(task, worth)) > 20 {
			met["long proofs"]++
		}
	}
	for _, name := range []string{"some are left out", "not all is worth", "all, in several racks", "long proofs"} {
		if met[name] < 50 {
			t.Error("met:", name, met[name])
		}
	}
}

// TestBestGreat has 8 jobs with 8 draws each and 5 racks, and nearly no node that can be cut off.
func TestBestGreat(t *testing.T) {
	task := place.Task{Racks: racks(5), Most: api.Ratio{N: 1, D: 2}}
	for i := range 8 {
		j := place.Job{Need: [3]int{1, 1, 1}, Worth: 1, Group: i}
		for k := range 8 {
			j.Draws = append(j.Draws, place.Draw{Power: k*125 + (i*37+k*k*k*31+i*k*k*11+i*i*i*7)%120, Count: 4})
		}
		task.Jobs = append(task.Jobs, j)
	}
	bests(t, "all in the first rack", task, make([]int, 8), 8, yes)
	for i := range task.Racks {
		task.Racks[i].Room[1] = 100
	}
	// The last job fits nowhere: until it comes, there is always more to hope.
	task.Jobs[7].Need[1], task.Jobs[7].Worth = 101, 100
	p := best(t, task)
	if !slices.Equal(p.Where, []int{0, 0, 0, 0, 0, 0, 0, -1}) || p.Worth != 7 {
		t.Error(p.Where, p.Worth)
	}
	// For n jobs there are 6^n nodes, and one son for each of the last ones.
	nodes := 1
	count := 0
	for range 8 {
		count += nodes
		nodes *= 6
	}
	count += nodes / 6
	if len(p.Proof) != count {
		t.Error(len(p.Proof), count)
	}
	if e := place.Verify(task, p); e != api.OK {
		t.Error("Verify", e)
	}
	// Each node that is not of all jobs has more to hope: none may be cut off.
	for _, i := range []int{0, 1, 6} {
		p.Proof[i] = true
		if e := place.Verify(task, p); e != api.ErrFalse {
			t.Error("Verify", i, e)
		}
		p.Proof[i] = false
	}
	if e := place.Verify(task, place.Placed{Where: p.Where, Worth: p.Worth, Proof: make([]bool, count)}); e != api.OK {
		t.Error("Verify, nothing is cut off", e)
	}
	if e := place.Verify(task, place.Placed{Where: p.Where, Worth: p.Worth, Proof: p.Proof[1:]}); e != api.ErrFalse {
		t.Error("Verify, one too short", e)
	}
}
