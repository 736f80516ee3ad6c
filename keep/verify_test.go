package keep_test

import (
	"math"
	"math/rand/v2"
	"slices"
	"testing"

	"switchgear/api"
	"switchgear/keep"
)

// verified calls Verify and compares.
func verified(t *testing.T, name string, g keep.Game, r keep.Result, want api.Errno) {
	t.Helper()
	if e := keep.Verify(g, r); e != want {
		t.Errorf("%s: %d, not %d: %+v %+v", name, e, want, g, r)
	}
}

// TestVerifyChapter changes each value of the certificate of the chapter's example.
func TestVerifyChapter(t *testing.T) {
	g := chapter()
	verified(t, "right", g, solved(t, g), api.OK)
	for state := range 3 {
		r := solved(t, g)
		r.In[state] = !r.In[state]
		verified(t, "In", g, r, api.ErrFalse)
		for _, n := range []int{math.MinInt, -2, -1, 0, 1, 2, 16, math.MaxInt} {
			r = solved(t, g)
			want := api.ErrFalse
			if n == r.Control[state] || state == cool && n == on {
				want = api.OK
			}
			r.Control[state] = n
			verified(t, "Control", g, r, want)
			r = solved(t, g)
			want = api.ErrFalse
			// Hot stays hot, so it has no right rank but 0.
			if n == r.Rank[state] {
				want = api.OK
			}
			r.Rank[state] = n
			verified(t, "Rank", g, r, want)
		}
	}
}

// TestVerifyLengths has certificates that are too short, or too long.
func TestVerifyLengths(t *testing.T) {
	g := chapter()
	for name, change := range map[string]func(r *keep.Result){
		"In is one too short":      func(r *keep.Result) { r.In = r.In[:2] },
		"In is one too long":       func(r *keep.Result) { r.In = append(r.In, false) },
		"no In":                    func(r *keep.Result) { r.In = nil },
		"Control is one too short": func(r *keep.Result) { r.Control = r.Control[:2] },
		"Control is one too long":  func(r *keep.Result) { r.Control = append(r.Control, -1) },
		"no Control":               func(r *keep.Result) { r.Control = nil },
		"Rank is one too short":    func(r *keep.Result) { r.Rank = r.Rank[:2] },
		"Rank is one too long":     func(r *keep.Result) { r.Rank = append(r.Rank, 0) },
		"no Rank":                  func(r *keep.Result) { r.Rank = nil },
		"nothing":                  func(r *keep.Result) { *r = keep.Result{} },
		"empty lists":              func(r *keep.Result) { *r = keep.Result{In: []bool{}, Control: []int{}, Rank: []int{}} },
		"a state less": func(r *keep.Result) {
			r.In, r.Control, r.Rank = r.In[:2], r.Control[:2], r.Rank[:2]
		},
		"a state more": func(r *keep.Result) {
			r.In, r.Control, r.Rank = append(r.In, false), append(r.Control, -1), append(r.Rank, 0)
		},
	} {
		r := solved(t, g)
		change(&r)
		verified(t, name, g, r, api.ErrFalse)
	}
}

func TestVerify(t *testing.T) {
	yes, no := true, false
	none := func(n int) []int { return slices.Repeat([]int{-1}, n) }
	g := still(2, 1, 1)
	verified(t, "nothing is in", g, keep.Result{In: []bool{no, no}, Control: none(2), Rank: []int{1, 1}}, api.ErrFalse)
	verified(t, "nothing is in, with ranks that go down", g, keep.Result{In: []bool{no, no}, Control: none(2), Rank: []int{2, 1}}, api.ErrFalse)
	verified(t, "nothing is in, with the rank 0", g, keep.Result{In: []bool{no, no}, Control: none(2), Rank: []int{0, 0}}, api.ErrFalse)
	verified(t, "one is in, less than the safe set", g, keep.Result{In: []bool{yes, no}, Control: []int{0, -1}, Rank: []int{-1, 1}}, api.ErrFalse)
	verified(t, "both are in", g, keep.Result{In: []bool{yes, yes}, Control: []int{0, 0}, Rank: none(2)}, api.OK)

	g = line([]bool{yes, yes, yes, no}, 1, 2, 3, 3)
	for _, c := range []struct {
		name string
		rank []int
		want api.Errno
	}{
		{"of Solve", []int{3, 2, 1, 0}, api.OK},
		{"higher", []int{30, 20, 10, 0}, api.OK},
		{"the highest", []int{math.MaxInt, math.MaxInt - 1, 1, 0}, api.OK},
		{"two are equal", []int{2, 2, 1, 0}, api.ErrFalse},
		{"a good one has 0", []int{3, 2, 0, 0}, api.ErrFalse},
		{"all have 0", []int{0, 0, 0, 0}, api.ErrFalse},
		{"upwards", []int{1, 2, 3, 0}, api.ErrFalse},
		{"below 0", []int{3, 2, 1, -1}, api.ErrFalse},
		{"far below 0", []int{3, 2, 1, math.MinInt}, api.ErrFalse},
		{"all are below 0", []int{-1, -2, -3, -4}, api.ErrFalse},
		{"not good, with a higher rank, and nothing lower follows", []int{4, 3, 2, 1}, api.ErrFalse},
	} {
		verified(t, c.name, g, keep.Result{In: make([]bool, 4), Control: none(4), Rank: c.rank}, c.want)
	}
	// A state that is not good may have a rank above 0, if that is right.
	g = line([]bool{no, no, yes}, 1, -1, 0)
	for _, c := range []struct {
		rank []int
		want api.Errno
	}{
		{[]int{0, 0, 1}, api.OK}, {[]int{1, 0, 2}, api.OK}, {[]int{0, 1, 1}, api.OK}, {[]int{2, 1, 3}, api.OK}, {[]int{0, 9, 7}, api.OK},
		{[]int{1, 1, 2}, api.ErrFalse}, {[]int{1, 0, 1}, api.ErrFalse}, {[]int{1, 2, 3}, api.ErrFalse},
	} {
		verified(t, "not good", g, keep.Result{In: make([]bool, 3), Control: none(3), Rank: c.rank}, c.want)
	}
	// A state that is not good cannot be in, even if it stays.
	g = line([]bool{no}, 0)
	verified(t, "not good, but in", g, keep.Result{In: []bool{yes}, Control: []int{0}, Rank: none(1)}, api.ErrFalse)
	// A disaster follows: no control keeps it.
	g = keep.Game{States: 1, Controls: 1, Shocks: 2, Next: []int{0, -1}, Good: goods(1)}
	verified(t, "in, with a disaster", g, keep.Result{In: []bool{yes}, Control: []int{0}, Rank: none(1)}, api.ErrFalse)
	verified(t, "a disaster", g, keep.Result{In: []bool{no}, Control: none(1), Rank: []int{1}}, api.OK)
	verified(t, "a disaster, with a high rank", g, keep.Result{In: []bool{no}, Control: none(1), Rank: []int{math.MaxInt}}, api.OK)
	// A safe state that follows does not count, though its rank is lower.
	g = line([]bool{yes, yes}, 1, 1)
	verified(t, "only a safe state follows", g, keep.Result{In: []bool{no, yes}, Control: []int{-1, 0}, Rank: []int{1, -1}}, api.ErrFalse)
	// For each control there must be a shock, not only for the first or the last.
	for _, next := range [][]int{{-1, 0}, {0, -1}} {
		g = keep.Game{States: 1, Controls: 2, Shocks: 1, Next: next, Good: goods(1)}
		verified(t, "one control has no shock", g, keep.Result{In: []bool{no}, Control: none(1), Rank: []int{1}}, api.ErrFalse)
	}
}

// TestVerifyGreat changes a value of a certificate with 400 states, 16 controls and 16 shocks.
func TestVerifyGreat(t *testing.T) {
	g := downhill(400, 16, 16)
	for _, state := range []int{0, 1, 200, 399} {
		r := solved(t, g)
		r.Rank[state]--
		verified(t, "a rank is less", g, r, api.ErrFalse)
		r.Rank[state] += 2
		verified(t, "a rank is greater", g, r, map[bool]api.Errno{true: api.OK, false: api.ErrFalse}[state == 399])
		r = solved(t, g)
		r.In[state] = true
		verified(t, "in", g, r, api.ErrFalse)
	}
}

// wrongly returns a certificate of which some values were changed, and how many.
func wrongly(r *rand.Rand, g keep.Game, x keep.Result) (keep.Result, int) {
	x = later(r, x)
	changes := from(r, 0, 3)
	for range changes {
		state := r.IntN(g.States)
		switch r.IntN(4) {
		case 0:
			x.In[state] = !x.In[state]
		case 1:
			x.Control[state] = from(r, -1, g.Controls)
		case 2:
			x.Rank[state] = from(r, -2, g.States)
		case 3:
			x.In[state] = false
			x.Control[state], x.Rank[state] = -1, from(r, 0, g.States)
		}
	}
	return x, changes
}

// TestVerifyRandom compares with the chapter's words, for certificates that are right, and for others.
func TestVerifyRandom(t *testing.T) {
	r := rand.New(rand.NewPCG(8, 3))
	met := [4]int{}
	for range 30000 {
		g := randomGame(r, 7)
		best := solved(t, g)
		x, changes := wrongly(r, g, best)
		right := tellRight(g, x)
		verified(t, "random", g, x, map[bool]api.Errno{true: api.OK, false: api.ErrFalse}[right])
		switch {
		case !right:
			met[0]++
		case sameResult(x, best):
			met[1]++
		case slices.Equal(x.Control, best.Control):
			met[2]++
		default:
			met[3]++
		}
		if changes == 0 && !right {
			t.Fatalf("%+v %+v is not right", g, x)
		}
	}
	if slices.Min(met[:]) < 200 {
		t.Error("met:", met)
	}
}
