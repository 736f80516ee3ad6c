package place_test

import (
	"math"
	"math/rand/v2"
	"testing"

	"switchgear/api"
	"switchgear/place"
)

// fill calls Fill and compares.
func fill(t *testing.T, name string, l []place.Job, limit int, most api.Ratio, want int) {
	t.Helper()
	if n, e := place.Fill(l, limit, most); e != api.OK || n != want {
		t.Errorf("%s: %d %d, not %d: %v %d %v", name, n, e, want, l, limit, most)
	}
}

func TestFill(t *testing.T) {
	three := jobs(3, chapter())
	fill(t, "example 2", three, 400, tenth, 2)
	fill(t, "example 2, just", three, 400, api.Ratio{N: 5, D: 32}, 3)
	fill(t, "example 2, a little less", three, 400, api.Ratio{N: 156249, D: 1000000}, 2)
	fill(t, "the sixteenth is just allowed", three, 300, api.Ratio{N: 1, D: 16}, 2)
	fill(t, "the sixteenth is not allowed", three, 300, api.Ratio{N: 1, D: 17}, 1)
	fill(t, "the quarter is just allowed", three, 100, api.Ratio{N: 1, D: 4}, 1)
	fill(t, "the quarter is not allowed", three, 100, api.Ratio{N: 6, D: 25}, 0)
	fill(t, "the quarter is not allowed", three, 199, api.Ratio{N: 6, D: 25}, 0)
	fill(t, "all", three, 600, never, 3)
	fill(t, "all but one", three, 599, never, 2)
	fill(t, "none", three, 0, never, 0)
	fill(t, "none, with a limit far below all sums", three, math.MinInt, never, 0)
	fill(t, "always is allowed", three, math.MinInt, always, 3)
	fill(t, "always is allowed", three, 0, always, 3)
	fill(t, "always is allowed, nearly", three, 0, api.Ratio{N: 999999, D: 1000000}, 0)
	fill(t, "a limit far above all sums", three, math.MaxInt, never, 3)

	fill(t, "no job", nil, 0, never, 0)
	fill(t, "an empty list", []place.Job{}, 1000, never, 0)
	fill(t, "no job, and a limit below 0", nil, -1, never, 0)
	fill(t, "no job, and a limit below 0", nil, -1, always, 0)
	fill(t, "jobs that draw nothing", jobs(8, job(0, 0, 1)), 0, never, 8)
	fill(t, "jobs that draw nothing, and a limit below 0", jobs(8, job(0, 0, 1)), -1, never, 0)
	fill(t, "eight", jobs(8, job(0, 1000, 1)), 8000, never, 8)
	fill(t, "seven", jobs(8, job(0, 1000, 1)), 7999, never, 7)

	// Jobs that would fit do not count after one that does not, nor does the order in which they are worth most.
	l := []place.Job{job(1, 10, 1), job(9, 500, 1), job(1, 10, 1), job(1, 0, 1)}
	fill(t, "a great one second", l, 100, never, 1)
	fill(t, "a great one first", l[1:], 100, never, 0)
	fill(t, "a great one last", []place.Job{l[0], l[2], l[3], l[1]}, 100, never, 3)
	fill(t, "jobs that draw nothing after a great one", []place.Job{l[1], l[3], l[3]}, 100, never, 0)
	fill(t, "jobs that mostly draw nothing", []place.Job{job(1, 0, 1, 500, 1), job(1, 0, 64), job(1, 0, 63, 1, 1)}, 100, api.Ratio{N: 1, D: 2}, 3)
	fill(t, "jobs that mostly draw nothing", []place.Job{job(1, 0, 1, 500, 1), job(1, 0, 64), job(1, 0, 63, 101, 1)}, 100, api.Ratio{N: 1, D: 2}, 2)
	// Needs, groups and worth do not matter.
	fill(t, "needs", jobs(3, needing(place.MaxNeed, grouped(1, job(0, 1, 1)))), 3, never, 3)
	great := jobs(8, job(1, 0, 31, 1000, 1))
	fill(t, "2^40", great, 7999, api.Ratio{N: 1, D: 1000000}, 8)
	fill(t, "2^40", great, 7999, never, 7)
}

// TestFillErrors has errors of all jobs together, though less would be put together.
func TestFillErrors(t *testing.T) {
	for _, c := range []struct {
		name string
		l    []place.Job
		most api.Ratio
		want api.Errno
	}{
		{"nine jobs", jobs(9, job(0, 1000, 1)), never, api.ErrMany},
		{"nine jobs, and most", jobs(9, job(0, 1000, 1)), api.Ratio{N: 2, D: 1}, api.ErrMany},
		{"the last job is wrong", append(jobs(7, job(0, 1000, 1)), place.Job{}), never, api.ErrRange},
		{"the last job is wrong, and most", append(jobs(7, job(0, 1000, 1)), place.Job{}), api.Ratio{}, api.ErrRange},
		{"too many combinations", wides(512, 512, 512, 512, 512), never, api.ErrLarge},
		{"too many combinations, and most", wides(512, 512, 512, 512, 512), api.Ratio{}, api.ErrLarge},
		{"most", jobs(2, job(0, 1000, 1)), api.Ratio{}, api.ErrArg},
		{"most, and a limit below 0", jobs(2, job(0, 1000, 1)), api.Ratio{N: 1, D: -1}, api.ErrArg},
	} {
		for _, limit := range []int{-1, 0, 10, 100000} {
			if n, e := place.Fill(c.l, limit, c.most); n != 0 || e != c.want {
				t.Error(c.name, n, e)
			}
		}
	}
}

// TestFillRandom compares with the chapter's words: the greatest number for which it is so, for it and for all smaller ones.
func TestFillRandom(t *testing.T) {
	r := rand.New(rand.NewPCG(9, 7))
	met := map[string]int{}
	for range 6000 {
		l, limit, most := randomJobs(r, 4), from(r, -1, 20), randomMost(r)
		want := 0
		for n := range len(l) + 1 {
			above, all := tellAbove(l[:n], limit)
			if above*most.D > most.N*all {
				break
			}
			want = n
		}
		fill(t, "random", l, limit, most, want)
		switch {
		case len(l) < 2:
		case want == 0:
			met["none"]++
		case want == len(l):
			met["all"]++
		default:
			met["some"]++
		}
	}
	for _, name := range []string{"none", "all", "some"} {
		if met[name] < 300 {
			t.Error("met:", name, met[name])
		}
	}
}
