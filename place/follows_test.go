package place_test

import (
	"math/rand/v2"
	"slices"
	"testing"

	"switchgear/api"
	"switchgear/place"
)

// less reports whether one fraction is less than another one.
func less(a, b api.Ratio) bool { return a.N*b.D < b.N*a.D }

// TestWorthMost checks that what Verify accepts is worth most, whatever proof it has.
func TestWorthMost(t *testing.T) {
	r := rand.New(rand.NewPCG(9, 8))
	accepted, refused := 0, 0
	for range 1000 {
		task := randomTask(r, 4, 2)
		most := tellWorth(task, tellBest(task))
		for range 8 {
			where := randomWhere(r, task)
			worth := tellWorth(task, where)
			proof := proofOf(task, worth)
			if r.IntN(2) > 0 {
				proof = longProof(task)
			}
			e := place.Verify(task, place.Placed{Where: where, Worth: worth, Proof: proof})
			if (e == api.OK) != (worth == most && tellAllowed(task, where)) {
				t.Fatalf("%+v %v %d: %d, but %d is most", task, where, worth, e, most)
			}
			if e == api.OK {
				accepted++
			} else {
				refused++
			}
		}
	}
	if min(accepted, refused) < 200 {
		t.Error("met:", accepted, refused)
	}
}

// TestChanceOfSums checks that the chance of capping is exactly that of Sums.
func TestChanceOfSums(t *testing.T) {
	r := rand.New(rand.NewPCG(9, 9))
	for range 1500 {
		l := randomJobs(r, 8)
		list, n, e := place.Sums(l)
		if e != api.OK {
			t.Fatal(e)
		}
		all := 0
		for i, d := range list {
			all += d.Count
			if d.Count < 1 || i > 0 && d.Power <= list[i-1].Power {
				t.Fatal("not the sums that occur, in increasing order:", list)
			}
		}
		if all != n {
			t.Fatalf("%v: %v are %d, not %d", l, list, all, n)
		}
		before := always
		for limit := -1; limit < 60; limit++ {
			above := 0
			for _, d := range list {
				if d.Power > limit {
					above += d.Count
				}
			}
			c, _ := place.Chance(l, limit)
			if c.N*n != above*c.D {
				t.Fatalf("%v, limit %d: %v, not %d of %d", l, limit, c, above, n)
			}
			if less(before, c) {
				t.Fatal("a greater limit has a greater chance", l, limit)
			}
			before = c
			if len(l) == place.MaxJobs {
				continue
			}
			if more, _ := place.Chance(append(slices.Clone(l), randomJob(r)), limit); less(more, c) {
				t.Fatal("one more job has a smaller chance", l, limit)
			}
		}
		if before != never {
			t.Fatal("a limit above all sums:", l)
		}
	}
}

// TestFewer checks that a placement stays allowed without a job: if it is in none, or not there at all.
func TestFewer(t *testing.T) {
	r := rand.New(rand.NewPCG(9, 10))
	met := 0
	for range 6000 {
		task := randomTask(r, 5, 4)
		where := randomWhere(r, task)
		if ok, _ := place.Allowed(task, where); !ok {
			continue
		}
		for i := range where {
			out := slices.Clone(where)
			out[i] = -1
			allowed(t, "in none", task, out, true)
			gone := copied(task)
			gone.Jobs = slices.Delete(gone.Jobs, i, i+1)
			allowed(t, "not there", gone, slices.Delete(slices.Clone(where), i, i+1), true)
			if where[i] >= 0 {
				met++
			}
		}
		// Jobs that fit together fit without one of them.
		for i, k := range task.Racks {
			if in := inRack(task, where, i); len(in) > 0 {
				fits(t, "without the last", in[:len(in)-1], k, task.Most, true)
				fits(t, "without the first", in[1:], k, task.Most, true)
			}
		}
	}
	if met < 2000 {
		t.Error("met:", met)
	}
}

// TestOrder checks that the order of jobs does not matter to Sums.
func TestOrder(t *testing.T) {
	r := rand.New(rand.NewPCG(9, 11))
	for range 1000 {
		l := randomJobs(r, 8)
		want, all, _ := place.Sums(l)
		c, _ := place.Chance(l, 12)
		r.Shuffle(len(l), func(i, k int) { l[i], l[k] = l[k], l[i] })
		sums(t, "shuffled", l, want, all)
		chance(t, "shuffled", l, 12, c)
	}
}

// TestTree checks that Best is the first one in the order of the tree, of all that are worth most: each one that is accepted comes later.
func TestTree(t *testing.T) {
	r := rand.New(rand.NewPCG(9, 12))
	others := 0
	for range 400 {
		task := randomTask(r, 4, 3)
		b := best(t, task)
		found := false
		for _, where := range placements(task, len(task.Jobs)) {
			e := place.Verify(task, place.Placed{Where: where, Worth: b.Worth, Proof: b.Proof})
			if slices.Equal(where, b.Where) {
				found = true
				continue
			}
			if e == api.OK && !found {
				t.Fatalf("%+v: %v comes before %v", task, where, b.Where)
			}
			if e == api.OK {
				others++
			}
		}
		if !found {
			t.Fatalf("%+v: %v is no placement", task, b.Where)
		}
	}
	if others < 400 {
		t.Error("met:", others)
	}
}
