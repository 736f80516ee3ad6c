package place_test

import (
	"math"
	"math/rand/v2"
	"slices"
	"testing"

	"switchgear/api"
	"switchgear/place"
)

// sums calls Sums and compares.
func sums(t *testing.T, name string, l []place.Job, want []place.Draw, combinations int) {
	t.Helper()
	if got, n, e := place.Sums(l); e != api.OK || n != combinations || !slices.Equal(got, want) {
		t.Errorf("%s: %v %d %d, not %v %d", name, got, n, e, want, combinations)
	}
}

// chance calls Chance and compares.
func chance(t *testing.T, name string, l []place.Job, limit int, want api.Ratio) {
	t.Helper()
	if got, e := place.Chance(l, limit); e != api.OK || got != want {
		t.Errorf("%s: the chance of more than %d: %v %d, not %v", name, limit, got, e, want)
	}
}

// TestSumsChapter is the chapter's first example.
func TestSumsChapter(t *testing.T) {
	sums(t, "one job", jobs(1, chapter()), []place.Draw{{100, 3}, {200, 1}}, 4)
	chance(t, "one job", jobs(1, chapter()), 100, api.Ratio{N: 1, D: 4})
	chance(t, "one job", jobs(1, chapter()), 199, api.Ratio{N: 1, D: 4})
	sums(t, "two jobs", jobs(2, chapter()), []place.Draw{{200, 9}, {300, 6}, {400, 1}}, 16)
	chance(t, "two jobs", jobs(2, chapter()), 300, api.Ratio{N: 1, D: 16})
	sums(t, "three jobs", jobs(3, chapter()), []place.Draw{{300, 27}, {400, 27}, {500, 9}, {600, 1}}, 64)
	chance(t, "three jobs", jobs(3, chapter()), 400, api.Ratio{N: 5, D: 32})
}

func TestSums(t *testing.T) {
	sums(t, "no job", nil, []place.Draw{{0, 1}}, 1)
	sums(t, "an empty list", []place.Job{}, []place.Draw{{0, 1}}, 1)
	sums(t, "power 0", jobs(1, job(1, 0, 64)), []place.Draw{{0, 64}}, 64)
	sums(t, "eight times power 0", jobs(8, job(1, 0, 2)), []place.Draw{{0, 256}}, 256)
	sums(t, "one measurement each", []place.Job{job(0, 7, 1), job(0, 5, 1), job(0, 1000, 1)}, []place.Draw{{1012, 1}}, 1)
	sums(t, "counts that are no chances in lowest terms", jobs(1, job(1, 1, 2, 2, 4)), []place.Draw{{1, 2}, {2, 4}}, 6)
	sums(t, "sums that combinations share", []place.Job{job(0, 0, 1, 1, 1, 2, 1), job(0, 0, 1, 1, 1, 2, 1)}, []place.Draw{{0, 1}, {1, 2}, {2, 3}, {3, 2}, {4, 1}}, 9)
	sums(t, "sums that combinations with different counts share", []place.Job{job(0, 0, 2, 3, 5), job(0, 0, 7, 3, 11)}, []place.Draw{{0, 14}, {3, 57}, {6, 55}}, 126)
	sums(t, "sums that none share", []place.Job{job(0, 0, 1, 1, 2), job(0, 0, 3, 10, 4)}, []place.Draw{{0, 3}, {1, 6}, {10, 4}, {11, 8}}, 21)
	sums(t, "sums that come out of order", []place.Job{job(0, 0, 1, 100, 1), job(0, 0, 1, 1, 1, 99, 1)}, []place.Draw{{0, 1}, {1, 1}, {99, 1}, {100, 1}, {101, 1}, {199, 1}}, 6)
	sums(t, "the greatest powers", jobs(8, job(1, 1000, 1)), []place.Draw{{8000, 1}}, 1)
	sums(t, "2^40", jobs(8, job(1, 0, 16, 1000, 16)), []place.Draw{
		{0, 1 << 32}, {1000, 8 << 32}, {2000, 28 << 32}, {3000, 56 << 32}, {4000, 70 << 32}, {5000, 56 << 32}, {6000, 28 << 32}, {7000, 8 << 32}, {8000, 1 << 32},
	}, 1<<40)
	// What else a job has does not matter.
	sums(t, "needs", jobs(2, needing(place.MaxNeed, grouped(100, job(1000000, 5, 1)))), []place.Draw{{10, 1}}, 1)
}

func TestChance(t *testing.T) {
	l := []place.Job{job(0, 10, 1, 20, 2), job(0, 5, 3, 40, 1)}
	// 15: 3, 25: 6, 50: 1, 60: 2 of 12.
	for limit, want := range map[int]api.Ratio{
		math.MinInt: always, -1000000: always, -1: always, 0: always, 14: always,
		15: {N: 3, D: 4}, 16: {N: 3, D: 4}, 24: {N: 3, D: 4},
		25: {N: 1, D: 4}, 26: {N: 1, D: 4}, 49: {N: 1, D: 4},
		50: {N: 1, D: 6}, 59: {N: 1, D: 6},
		60: never, 61: never, 10000: never, 10001: never, math.MaxInt: never,
	} {
		chance(t, "two jobs", l, limit, want)
	}
	for limit, want := range map[int]api.Ratio{math.MinInt: always, -2: always, -1: always, 0: never, 1: never, math.MaxInt: never} {
		chance(t, "no job", nil, limit, want)
		chance(t, "an empty list", []place.Job{}, limit, want)
		chance(t, "power 0", jobs(8, job(0, 0, 3)), limit, want)
	}
	great := jobs(8, job(1, 0, 31, 1000, 1))
	chance(t, "2^40", great, 7999, api.Ratio{N: 1, D: 1 << 40})
	chance(t, "2^40", great, 6999, api.Ratio{N: 1 + 8*31, D: 1 << 40})
	chance(t, "2^40", great, 8000, never)
	chance(t, "2^40", great, -1, always)
	all := 1
	for range 8 {
		all *= 31
	}
	chance(t, "2^40", great, 0, api.Ratio{N: 1<<40 - all, D: 1 << 40})
}

// TestSumsRandom compares with what all combinations of single measurements have.
func TestSumsRandom(t *testing.T) {
	r := rand.New(rand.NewPCG(9, 1))
	met := map[string]int{}
	for range 4000 {
		l := randomJobs(r, 4)
		counts, all := tellSums(l)
		var want []place.Draw
		for sum := range 200 {
			if counts[sum] > 0 {
				want = append(want, place.Draw{Power: sum, Count: counts[sum]})
			}
		}
		sums(t, "random", l, want, all)
		limit := from(r, -2, 30)
		above, _ := tellAbove(l, limit)
		got, e := place.Chance(l, limit)
		if e != api.OK || got.D < 1 || got.N*all != got.D*above {
			t.Fatalf("%v, limit %d: %v %d, not %d of %d", l, limit, got, e, above, all)
		}
		for n := 2; n <= got.D; n++ {
			if got.N%n == 0 && got.D%n == 0 {
				t.Fatal("not in lowest terms:", got)
			}
		}
		switch above {
		case 0:
			met["never"]++
		case all:
			met["always"]++
		default:
			met["between"]++
		}
	}
	for _, name := range []string{"never", "always", "between"} {
		if met[name] < 300 {
			t.Error("met:", name, met[name])
		}
	}
}
