package place_test

import (
	"math"
	"math/rand/v2"
	"slices"
	"testing"

	"switchgear/api"
	"switchgear/place"
)

// verified calls Verify and compares.
func verified(t *testing.T, name string, task place.Task, p place.Placed, want api.Errno) {
	t.Helper()
	if e := place.Verify(task, p); e != want {
		t.Errorf("%s: %d, not %d: %+v %v", name, e, want, task, p)
	}
}

// TestVerifyPlacement changes the placement and the worth of the chapter's second example.
func TestVerifyPlacement(t *testing.T) {
	task := example()
	proof := []bool{no, no, no, yes, yes, yes}
	for _, c := range []struct {
		where []int
		worth int
		want  api.Errno
	}{
		{[]int{0, 0, -1}, 10, api.OK},
		{[]int{0, -1, 0}, 10, api.OK}, {[]int{-1, 0, 0}, 10, api.OK},
		{[]int{0, 0, -1}, 9, api.ErrFalse}, {[]int{0, 0, -1}, 11, api.ErrFalse}, {[]int{0, 0, -1}, 15, api.ErrFalse}, {[]int{0, 0, -1}, 0, api.ErrFalse}, {[]int{0, 0, -1}, -10, api.ErrFalse},
		{[]int{0, 0, -1}, math.MaxInt, api.ErrFalse}, {[]int{0, 0, -1}, math.MinInt, api.ErrFalse},
		{[]int{0, -1, -1}, 5, api.ErrFalse}, {[]int{0, -1, -1}, 10, api.ErrFalse}, {[]int{-1, -1, -1}, 0, api.ErrFalse}, {[]int{-1, -1, -1}, 10, api.ErrFalse},
		{[]int{0, 0, 0}, 15, api.ErrPlace}, {[]int{0, 0, 0}, 10, api.ErrPlace},
		{nil, 10, api.ErrPlace}, {[]int{}, 0, api.ErrPlace}, {[]int{0, 0}, 10, api.ErrPlace}, {[]int{0, 0, -1, -1}, 10, api.ErrPlace},
		{[]int{0, 1, -1}, 10, api.ErrPlace}, {[]int{0, 0, -2}, 10, api.ErrPlace}, {[]int{0, 0, math.MinInt}, 10, api.ErrPlace}, {[]int{0, 0, math.MaxInt}, 15, api.ErrPlace},
	} {
		verified(t, "example 2", task, place.Placed{Where: c.where, Worth: c.worth, Proof: proof}, c.want)
	}
	// A proof for more is none for less, though both placements are allowed.
	verified(t, "less, with its own proof", task, place.Placed{Where: []int{0, -1, -1}, Worth: 5, Proof: proofOf(task, 5)}, api.ErrFalse)
	verified(t, "a proof that there is no more than 15", task, place.Placed{Where: []int{0, 0, -1}, Worth: 15, Proof: []bool{yes}}, api.ErrFalse)
	verified(t, "a proof that there is no more than 15", task, place.Placed{Where: []int{0, 0, -1}, Worth: 10, Proof: []bool{yes}}, api.ErrFalse)
}

// TestVerifyProof has proofs for the chapter's second example.
func TestVerifyProof(t *testing.T) {
	task := example()
	for _, c := range []struct {
		name  string
		proof []bool
		want  api.Errno
	}{
		{"of Best", []bool{no, no, no, yes, yes, yes}, api.OK},
		{"the node of all jobs is not cut off", []bool{no, no, no, no, yes, yes}, api.OK},
		{"the last son is not cut off", []bool{no, no, no, yes, yes, no, no, yes, yes, yes}, api.OK},
		{"the last son is not cut off, nor are its first ones", []bool{no, no, no, yes, yes, no, no, no, no, yes}, api.OK},
		{"the last son but one is not cut off", []bool{no, no, no, yes, no, yes, yes, yes}, api.OK},
		{"nothing is cut off", []bool{no, no, no, no, no, no, no, no, no, no, no, no, no, no}, api.OK},
		{"nothing", nil, api.ErrFalse},
		{"an empty list", []bool{}, api.ErrFalse},
		{"only the root", []bool{no}, api.ErrFalse},
		{"the root is cut off", []bool{yes}, api.ErrFalse},
		{"the root is cut off, and more comes", []bool{yes, no, no, yes, yes, yes}, api.ErrFalse},
		{"the first son is cut off", []bool{no, yes, yes}, api.ErrFalse},
		{"the first son of the first son is cut off", []bool{no, no, yes, yes, yes}, api.ErrFalse},
		{"one too short", []bool{no, no, no, yes, yes}, api.ErrFalse},
		{"one too long", []bool{no, no, no, yes, yes, yes, yes}, api.ErrFalse},
		{"one too long", []bool{no, no, no, yes, yes, yes, no}, api.ErrFalse},
		{"much too long", append([]bool{no, no, no, yes, yes, yes}, make([]bool, 100000)...), api.ErrFalse},
		{"the last son is not cut off, and its sons are not there", []bool{no, no, no, yes, yes, no}, api.ErrFalse},
		{"only some of its sons are there", []bool{no, no, no, yes, yes, no, yes}, api.ErrFalse},
		{"a son that is not allowed has a value", []bool{no, no, no, no, yes, yes, yes}, api.ErrFalse},
		{"all are cut off", []bool{yes, yes, yes, yes, yes, yes}, api.ErrFalse},
		{"nothing is cut off, and it ends too early", make([]bool, 13), api.ErrFalse},
		{"nothing is cut off, and it goes on", make([]bool, 15), api.ErrFalse},
	} {
		verified(t, c.name, task, place.Placed{Where: []int{0, 0, -1}, Worth: 10, Proof: c.proof}, c.want)
		if tellProves(task, c.proof, 10) != (c.want == api.OK) {
			t.Error("the test is wrong:", c.name)
		}
	}
	// The whole tree has a node of all jobs that is worth more than 5.
	verified(t, "worth more", task, place.Placed{Where: []int{0, -1, -1}, Worth: 5, Proof: longProof(task)}, api.ErrFalse)
	empty := place.Task{Racks: racks(1), Most: never}
	for _, c := range []struct {
		proof []bool
		want  api.Errno
	}{
		{[]bool{yes}, api.OK}, {[]bool{no}, api.OK}, {nil, api.ErrFalse}, {[]bool{}, api.ErrFalse}, {[]bool{yes, yes}, api.ErrFalse}, {[]bool{no, no}, api.ErrFalse}, {[]bool{no, yes}, api.ErrFalse},
	} {
		verified(t, "no job", empty, place.Placed{Proof: c.proof}, c.want)
		verified(t, "no job, but worth", empty, place.Placed{Worth: 1, Proof: c.proof}, api.ErrFalse)
		verified(t, "no job, but worth", empty, place.Placed{Worth: -1, Proof: c.proof}, api.ErrFalse)
	}
	free := place.Task{Jobs: jobs(2, job(0, 1, 1)), Racks: racks(2), Most: never}
	for _, where := range [][]int{{0, 0}, {1, 0}, {-1, 1}, {-1, -1}} {
		verified(t, "worth 0", free, place.Placed{Where: where, Proof: []bool{yes}}, api.OK)
		verified(t, "worth 0", free, place.Placed{Where: where, Proof: []bool{no, yes, no, yes, no, yes, yes}}, api.OK)
		verified(t, "worth 0", free, place.Placed{Where: where, Proof: make([]bool, 13)}, api.OK)
		verified(t, "worth 0", free, place.Placed{Where: where, Proof: make([]bool, 12)}, api.ErrFalse)
	}
}

// wrongly returns a placement with a proof, of which some may be wrong.
func wrongly(r *rand.Rand, task place.Task, best place.Placed) place.Placed {
	p := place.Placed{Where: slices.Clone(best.Where), Worth: best.Worth}
	cuts := from(r, 0, 4)
	p.Proof = tellProof(task, nil, p.Worth, func() bool { return r.IntN(4) < cuts })
	switch r.IntN(12) {
	case 0:
		p.Where = randomWhere(r, task)
	case 1:
		p.Where = randomWhere(r, task)
		p.Worth = tellWorth(task, p.Where)
	case 2:
		p.Where = randomWhere(r, task)
		p.Worth = tellWorth(task, p.Where)
		p.Proof = tellProof(task, nil, p.Worth, func() bool { return r.IntN(4) < cuts })
	case 3:
		p.Where = append(p.Where, -1)
	case 4:
		p.Worth += from(r, -1, 1)
	case 5:
		i := r.IntN(len(p.Proof))
		p.Proof[i] = !p.Proof[i]
	case 6:
		p.Proof = p.Proof[:r.IntN(len(p.Proof))]
	case 7:
		p.Proof = append(p.Proof, r.IntN(2) > 0)
	case 8:
		p.Proof = slices.Insert(p.Proof, r.IntN(len(p.Proof)), r.IntN(2) > 0)
	case 9:
		if len(p.Where) > 0 {
			p.Where[r.IntN(len(p.Where))] = from(r, -2, len(task.Racks))
		}
	}
	return p
}

// TestVerifyRandom compares with the chapter's words, for placements and proofs that are right, and for others.
func TestVerifyRandom(t *testing.T) {
	r := rand.New(rand.NewPCG(9, 5))
	met := map[string]int{}
	for range 4000 {
		task := randomTask(r, 4, 3)
		b := best(t, task)
		for range 4 {
			p := wrongly(r, task, b)
			want := tellVerify(task, p)
			verified(t, "random", task, p, want)
			switch {
			case want == api.ErrPlace:
				met["place"]++
			case want == api.ErrFalse:
				met["false"]++
			case !slices.Equal(p.Where, b.Where):
				met["another placement"]++
			case !slices.Equal(p.Proof, b.Proof):
				met["another proof"]++
			default:
				met["the same"]++
			}
		}
	}
	for _, name := range []string{"place", "false", "another placement", "another proof", "the same"} {
		if met[name] < 100 {
			t.Error("met:", name, met[name])
		}
	}
}

// TestVerifyAllProofs has all lists of truth values, up to a length, for small tasks.
func TestVerifyAllProofs(t *testing.T) {
	r := rand.New(rand.NewPCG(9, 6))
	right := 0
	for range 60 {
		task := randomTask(r, 2, 2)
		where := tellBest(task)
		for length := range 12 {
			for number := range 1 << length {
				proof := make([]bool, length)
				for i := range proof {
					proof[i] = number>>i&1 == 1
				}
				p := place.Placed{Where: where, Worth: tellWorth(task, where), Proof: proof}
				want := tellVerify(task, p)
				verified(t, "all proofs", task, p, want)
				if want == api.OK {
					right++
				}
			}
		}
	}
	if right < 300 {
		t.Error("met:", right)
	}
}
