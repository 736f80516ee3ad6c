package place_test

import (
	"math/rand/v2"
	"testing"

	"switchgear/api"
	"switchgear/place"
)

// fits calls Fits and compares.
func fits(t *testing.T, name string, l []place.Job, r place.Rack, most api.Ratio, want bool) {
	t.Helper()
	if got, e := place.Fits(l, r, most); e != api.OK || got != want {
		t.Errorf("%s: %v %d, not %v: %v %v %v", name, got, e, want, l, r, most)
	}
}

// TestFitsNeeds has each need just as great as the room, and one greater.
func TestFitsNeeds(t *testing.T) {
	for kind := range 3 {
		l := []place.Job{needing(2, job(0, 1, 1)), needing(3, job(0, 1, 1))}
		r := rack(5, 2, 0)
		fits(t, "just", l, r, never, true)
		l[1].Need[kind]++
		fits(t, "one more", l, r, never, false)
		r.Room[kind]++
		fits(t, "one more, and room for it", l, r, never, true)
		r = rack(1000, 2, 0)
		r.Room[kind] = 4
		fits(t, "room for the others", l, r, never, false)
		// What one kind has left is nothing for another.
		l = []place.Job{job(0, 1, 1)}
		l[0].Need[kind] = 1
		fits(t, "no room", l, rack(0, 10, 0), never, false)
		r = rack(0, 10, 0)
		r.Room[kind] = 1
		fits(t, "room for this kind only", l, r, never, true)
		r = rack(1, 10, 0)
		r.Room[kind] = 0
		fits(t, "room for the others only", l, r, always, false)
	}
	fits(t, "no job and no room", nil, rack(0, 0, 0), never, true)
	fits(t, "an empty list", []place.Job{}, rack(0, 0, 0), never, true)
	fits(t, "nothing is needed", jobs(8, job(0, 0, 1)), rack(0, 0, 0), never, true)
	fits(t, "all room", jobs(1, needing(place.MaxNeed, job(0, 1, 1))), rack(place.MaxNeed, 1, 0), never, true)
	fits(t, "all room, twice", jobs(2, needing(place.MaxNeed, job(0, 1, 1))), rack(place.MaxNeed, 2, 0), never, false)
	fits(t, "all room, eight times", jobs(8, needing(place.MaxNeed, job(0, 1, 1))), rack(place.MaxNeed, 8, 0), always, false)
	fits(t, "an eighth of all room", jobs(8, needing(place.MaxNeed/8, job(0, 1, 1))), rack(place.MaxNeed, 8, 0), never, true)
	fits(t, "the same group", jobs(2, grouped(1, job(0, 1, 1))), rack(0, 2, 0), never, true)
}

// TestFitsChance has chances that are just most, and others.
func TestFitsChance(t *testing.T) {
	ratio := func(n, d int) api.Ratio { return api.Ratio{N: n, D: d} }
	two := jobs(2, chapter())
	fits(t, "just", two, rack(2, 300, 0), ratio(1, 16), true)
	fits(t, "a little less is allowed", two, rack(2, 300, 0), ratio(1, 17), false)
	fits(t, "a little less is allowed", two, rack(2, 300, 0), ratio(62499, 1000000), false)
	fits(t, "a little more is allowed", two, rack(2, 300, 0), ratio(62501, 1000000), true)
	fits(t, "never is allowed", two, rack(2, 399, 0), never, false)
	fits(t, "never is allowed, and it is never", two, rack(2, 400, 0), never, true)
	fits(t, "always is allowed", two, rack(2, 0, 0), always, true)
	fits(t, "nearly always is allowed", two, rack(2, 0, 0), ratio(999999, 1000000), false)
	fits(t, "nearly always is allowed", two, rack(2, 199, 0), ratio(999999, 1000000), false)
	fits(t, "nearly always is allowed", two, rack(2, 200, 0), ratio(7, 16), true)
	fits(t, "nearly always is allowed", two, rack(2, 200, 0), ratio(43, 99), false)
	fits(t, "example 2", jobs(3, chapter()), rack(3, 400, 0), tenth, false)
	fits(t, "example 2, just", jobs(3, chapter()), rack(3, 400, 0), ratio(5, 32), true)
	fits(t, "example 2, with room for two", jobs(3, chapter()), rack(2, 400, 0), ratio(5, 32), false)
	fits(t, "example 2, with a greater cap", jobs(3, chapter()), rack(3, 500, 0), tenth, true)
	great := jobs(8, job(1, 0, 31, 1000, 1))
	fits(t, "1 of 2^40", great, rack(0, 7999, 0), never, false)
	fits(t, "1 of 2^40", great, rack(0, 7999, 0), ratio(1, 1000000), true)
	fits(t, "nearly all of 2^40", jobs(8, job(1, 0, 1, 1000, 31)), rack(0, 0, 0), ratio(999999, 1000000), false)
	fits(t, "half of 2^40", append(jobs(7, job(1, 0, 32)), job(1, 0, 16, 1, 16)), rack(0, 0, 0), ratio(1, 2), true)
	fits(t, "half of 2^40", append(jobs(7, job(1, 0, 32)), job(1, 0, 16, 1, 16)), rack(0, 0, 0), ratio(499999, 999999), false)
	fits(t, "the greatest cap", jobs(8, job(1, 1000, 1)), rack(0, place.MaxCap, 0), never, true)
}

// TestFitsRandom compares with the chapter's words.
func TestFitsRandom(t *testing.T) {
	r := rand.New(rand.NewPCG(9, 2))
	met := map[bool]int{}
	for range 6000 {
		l, k, most := randomJobs(r, 4), randomRack(r), randomMost(r)
		want := tellFits(l, k, most)
		fits(t, "random", l, k, most, want)
		if len(l) > 1 {
			met[want]++
		}
		// Of the jobs themselves: just the chance that they have.
		k.Room = [3]int{100, 100, 100}
		c, _ := place.Chance(l, k.Cap)
		fits(t, "just", l, k, c, true)
		if c.N > 0 {
			fits(t, "never is allowed", l, k, never, false)
		}
	}
	if min(met[true], met[false]) < 500 {
		t.Error("met:", met)
	}
}
