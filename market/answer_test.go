package market_test

import (
	"math"
	"math/rand/v2"
	"slices"
	"testing"

	"switchgear/api"
	"switchgear/market"
)

// answered calls Answer and compares.
func answered(t *testing.T, name string, d market.Day, p market.Plan, o market.Offer, pattern, want []int, ok bool) {
	t.Helper()
	if l, is, e := market.Answer(d, p, o, pattern); e != api.OK || is != ok || !slices.Equal(l, want) {
		t.Errorf("%s: %v %v %d, not %v %v", name, l, is, e, want, ok)
	}
}

// delivered calls Deliver and compares: with no first pattern if all are delivered.
func delivered(t *testing.T, name string, d market.Day, p market.Plan, o market.Offer, first []int) {
	t.Helper()
	if ok, l, e := market.Deliver(d, p, o); e != api.OK || ok != (first == nil) || !slices.Equal(l, first) {
		t.Errorf("%s: %v %v %d, not %v", name, ok, l, e, first)
	}
}

// TestAnswerExample has the chapter's second example.
func TestAnswerExample(t *testing.T) {
	d := chapter()
	for _, said := range []int{40, 0, -1, 1000} {
		// What the plan says of its cost does not matter.
		p := market.Plan{Charge: []int{2, -2}, Cost: said}
		first := market.Offer{From: 0, To: 1, Power: 2, Hours: 1, Calls: 1}
		answered(t, "the empty pattern", d, p, first, nil, []int{2, 0}, true)
		answered(t, "a call in the first hour", d, p, first, []int{0}, []int{0, 2}, true)
		delivered(t, "the first hour", d, p, first, nil)
		second := market.Offer{From: 1, To: 2, Power: 2, Hours: 1, Calls: 1}
		answered(t, "the empty pattern", d, p, second, []int{}, []int{2, 0}, true)
		answered(t, "a call in the second hour", d, p, second, []int{1}, []int{2}, false)
		delivered(t, "the second hour", d, p, second, []int{1})
		both := market.Offer{From: 0, To: 2, Power: 2, Hours: 1, Calls: 2}
		answered(t, "calls in both hours", d, p, both, []int{0, 1}, []int{0}, false)
		delivered(t, "both hours", d, p, both, []int{0, 1})
	}
}

// TestAnswer has offers that fail in the first hour, in a later one, or only at the end.
func TestAnswer(t *testing.T) {
	d := flat(4, market.Hour{Buy: 5, Load: 4})
	d.Store = market.Store{Energy: 2, Full: 4, Power: 2, End: 1}
	d.Most = 5
	p := idle(d)
	offer := func(power, hours, calls, pause int) market.Offer {
		return market.Offer{From: 0, To: 4, Power: power, Hours: hours, Calls: calls, Pause: pause}
	}
	answered(t, "no call", d, p, offer(2, 1, 1, 0), nil, []int{1, 1, 0, 0}, true)
	answered(t, "in the first hour", d, p, offer(2, 1, 1, 0), []int{0}, []int{-2, 1, 1, 1}, true)
	answered(t, "in the second hour", d, p, offer(2, 1, 1, 0), []int{1}, []int{1, -2, 1, 1}, true)
	answered(t, "in the last hour", d, p, offer(2, 1, 1, 0), []int{3}, []int{1, 1, 0, -2}, true)
	answered(t, "two calls, one after the other", d, p, offer(2, 1, 2, 0), []int{2, 3}, []int{1, 1, -2, -2}, false)
	delivered(t, "a call", d, p, offer(2, 1, 1, 0), nil)
	delivered(t, "two calls", d, p, offer(2, 1, 2, 0), []int{0, 1})
	delivered(t, "two calls with a pause", d, p, offer(2, 1, 2, 1), []int{0, 2})
	delivered(t, "a call of two hours", d, p, offer(2, 2, 1, 0), []int{0})
	delivered(t, "no call allowed", d, p, offer(40, 1, 0, 0), nil)
	delivered(t, "no call fits", d, p, offer(40, 5, 4, 0), nil)

	answered(t, "in the first hour, with more Power", d, p, offer(3, 1, 1, 0), []int{0}, nil, false)
	answered(t, "in the last hour, with more Power", d, p, offer(3, 1, 1, 0), []int{3}, []int{1, 1, 0}, false)
	answered(t, "two hours that take too much", d, p, offer(2, 2, 1, 0), []int{0}, []int{-2}, false)
	answered(t, "two hours at the end that leave too little", d, p, offer(2, 2, 1, 0), []int{2}, []int{1, 1, -2, -2}, false)
	answered(t, "two hours that leave just enough", d, p, offer(1, 2, 1, 0), []int{0}, []int{-1, -1, 1, 1}, true)
	answered(t, "what was taken comes back until Full", d, p, offer(1, 1, 1, 0), []int{0}, []int{-1, 1, 1, 1}, true)

	d.Store.End = 0
	answered(t, "two calls at the end, without End", d, p, offer(2, 1, 2, 0), []int{2, 3}, []int{1, 1, -2, -2}, true)
	d.Store.End = 4
	p.Charge = []int{1, 1, 0, 0}
	answered(t, "no call, and End at Full", d, p, offer(1, 1, 1, 0), nil, []int{1, 1, 0, 0}, true)
	// The plan buys 5 in the first two hours, 4 in the last ones.
	answered(t, "in the first hour, and End at Full", d, p, offer(1, 1, 1, 0), []int{0}, []int{0, 1, 1, 0}, true)
	answered(t, "in the third hour, and End at Full", d, p, offer(1, 1, 1, 0), []int{2}, []int{1, 1, -1, 1}, true)
	answered(t, "in the last hour, and End at Full", d, p, offer(1, 1, 1, 0), []int{3}, []int{1, 1, 0, -1}, false)
	answered(t, "in the last hour, End missed by one and then some", d, p, offer(2, 1, 1, 0), []int{3}, []int{1, 1, 0, -2}, false)
	delivered(t, "End at Full", d, p, offer(1, 1, 1, 0), []int{3})
	delivered(t, "End at Full, with more Power", d, p, offer(2, 1, 1, 0), []int{2})
	delivered(t, "End at Full, four calls", d, p, offer(1, 1, 4, 0), []int{0, 1, 2})
	delivered(t, "End at Full, before the last hour", d, p, market.Offer{From: 0, To: 3, Power: 1, Hours: 1, Calls: 1}, nil)
}

// TestLimits has what limits a need: what the plan buys less Power in a call, Most outside; what is sold in the plan does not count.
func TestLimits(t *testing.T) {
	d := flat(2, market.Hour{Buy: 5, Sun: 6, Load: 4})
	d.Store = market.Store{Energy: 1, Full: 9, Power: 5}
	d.Most = 2
	one := market.Offer{From: 0, To: 1, Power: 1, Hours: 1, Calls: 1}
	// Without a charge 2 are sold in each hour; a call asks for a need of at most -1, not of -3.
	p := market.Plan{Charge: []int{0, 0}}
	answered(t, "no call", d, p, one, nil, []int{4, 4}, true)
	answered(t, "a call while the plan sells", d, p, one, []int{0}, []int{1, 4}, true)
	one.Power = 3
	answered(t, "a call of the Power that gives all", d, p, one, []int{0}, []int{-1, 4}, true)
	one.Power = 4
	answered(t, "a call of more", d, p, one, []int{0}, nil, false)
	p = market.Plan{Charge: []int{4, 0}}
	answered(t, "a call while the plan buys", d, p, one, []int{0}, []int{0, 4}, true)
	one.Power = 2
	answered(t, "a call of all that the plan buys", d, p, one, []int{0}, []int{2, 4}, true)

	// Power of the store bounds what it takes and gives.
	d = flat(3, market.Hour{Buy: 5, Load: 3})
	d.Store = market.Store{Energy: 5, Full: 9, Power: 2}
	d.Most = 40
	p = idle(d)
	one = market.Offer{From: 1, To: 2, Power: 2, Hours: 1, Calls: 1}
	answered(t, "just the Power of the store", d, p, one, []int{1}, []int{2, -2, 2}, true)
	one.Power = 3
	answered(t, "one more than the Power of the store", d, p, one, []int{1}, []int{2}, false)
	one.Power = 40
	answered(t, "the greatest Power", d, p, one, []int{1}, []int{2}, false)

	// A store of Full and more calls.
	d.Store = market.Store{Energy: 9, Full: 9, Power: 2}
	answered(t, "a full store", d, p, market.Offer{From: 0, To: 3, Power: 1, Hours: 1, Calls: 4}, []int{1}, []int{0, -1, 1}, true)
	// Without a call something may have to be given.
	d = flat(2, market.Hour{Buy: 5, Load: 3})
	d.Store = market.Store{Energy: 3, Full: 9, Power: 2}
	d.Most = 2
	p.Charge = []int{-1, -2}
	none := market.Offer{Power: 1, Hours: 1}
	answered(t, "the store holds as much as possible", d, p, none, nil, []int{-1, -1}, true)
	answered(t, "a call", d, p, market.Offer{From: 1, To: 2, Power: 1, Hours: 1, Calls: 1}, []int{1}, []int{-1}, false)
	p.Charge = []int{-1, -1}
	answered(t, "a call", d, p, market.Offer{From: 1, To: 2, Power: 1, Hours: 1, Calls: 1}, []int{1}, []int{-1, -2}, true)
}

// TestAnswerJobs has jobs that run in calls, with the starts of the plan.
func TestAnswerJobs(t *testing.T) {
	d := withJobs(3, market.Job{From: 0, To: 3, Hours: 1, Power: 6})
	d.Store = market.Store{Energy: 2, Full: 4, Power: 4}
	d.Most = 7
	o := market.Offer{From: 0, To: 3, Power: 2, Hours: 1, Calls: 1}
	for start := range 3 {
		p := market.Plan{Starts: []int{start}, Charge: []int{0, 0, 0}}
		want := []int{2, 0, 0}
		if start == 0 {
			want = []int{0, 2, 0}
		}
		answered(t, "no call", d, p, o, nil, want, true)
	}
	answered(t, "a call while the job runs", d, market.Plan{Starts: []int{1}, Charge: []int{0, 0, 0}}, o, []int{1}, []int{2, -2, 2}, true)
	answered(t, "a call before the job runs", d, market.Plan{Starts: []int{1}, Charge: []int{0, 0, 0}}, o, []int{0}, []int{-2, 0, 4}, true)
	answered(t, "a call after the job ran", d, market.Plan{Starts: []int{0}, Charge: []int{0, 0, 0}}, o, []int{2}, []int{0, 2, -2}, true)
	d.Most = 6
	d.Store.Energy = 1
	answered(t, "the job asks for all that the store has", d, market.Plan{Starts: []int{0}, Charge: []int{-1, 0, 0}}, o, []int{1}, []int{-1}, false)
}

// TestNoPattern has lists that are no pattern.
func TestNoPattern(t *testing.T) {
	d := flat(6, market.Hour{Buy: 5, Load: 4})
	d.Store = market.Store{Energy: 9, Full: 10, Power: 2}
	p := idle(d)
	o := market.Offer{From: 1, To: 6, Power: 1, Hours: 2, Calls: 2, Pause: 1}
	for _, l := range [][]int{nil, {}, {1}, {2}, {3}, {4}, {1, 4}} {
		if _, ok, e := market.Answer(d, p, o, l); e != api.OK || !ok {
			t.Error(l, ok, e)
		}
	}
	for _, l := range [][]int{
		{0}, {5}, {6}, {-1}, {math.MaxInt}, {math.MinInt}, {4, 1}, {1, 1}, {1, 2}, {1, 3}, {2, 4}, {3, 4}, {1, 5}, {0, 4}, {1, 4, 4}, {1, 4, 7}, {1, 4, math.MaxInt},
		{4, math.MinInt}, make([]int, 100),
	} {
		if list, ok, e := market.Answer(d, p, o, l); e != api.ErrArg || ok || len(list) != 0 {
			t.Error(l, list, ok, e)
		}
	}
	o.Calls = 1
	if _, _, e := market.Answer(d, p, o, []int{1, 4}); e != api.ErrArg {
		t.Error("too many calls:", e)
	}
	o.Calls = 0
	if _, _, e := market.Answer(d, p, o, []int{1}); e != api.ErrArg {
		t.Error("no call allowed:", e)
	}
	if l, ok, e := market.Answer(d, p, o, nil); e != api.OK || !ok || !slices.Equal(l, []int{1, 0, 0, 0, 0, 0}) {
		t.Error("no call allowed:", l, ok, e)
	}
}

// TestFirstPattern has offers with several patterns that are not delivered: the first one is the one in lexicographic order.
func TestFirstPattern(t *testing.T) {
	d := flat(4, market.Hour{Buy: 5, Load: 2})
	d.Store = market.Store{Full: 4, Power: 2}
	d.Most = 3
	p := idle(d)
	offer := func(power, hours, calls int) market.Offer {
		return market.Offer{From: 0, To: 4, Power: power, Hours: hours, Calls: calls}
	}
	delivered(t, "the store is empty at first", d, p, offer(1, 1, 1), []int{0})
	late := offer(1, 1, 4)
	late.From = 1
	delivered(t, "one was taken until then", d, p, late, []int{1, 2})
	late.From = 2
	delivered(t, "two were taken until then", d, p, late, nil)
	late.Power = 2
	delivered(t, "two were taken until then, and two are given", d, p, late, []int{2, 3})
	late.From = 3
	delivered(t, "only in the last hour", d, p, late, nil)
	late.From = 1
	delivered(t, "two are given after one was taken", d, p, late, []int{1})
	// Longer patterns come before later ones: 1 with 3 does not fail, 1 with 2 does.
	d.Store.Energy = 0
	late = offer(1, 1, 2)
	late.From, late.Pause = 1, 1
	delivered(t, "with a pause", d, p, late, nil)
	late.Pause = 0
	delivered(t, "without a pause", d, p, late, []int{1, 2})
	d.Store.Energy, d.Store.End = 2, 4
	p.Charge = []int{1, 1, 0, 0}
	delivered(t, "only End is missed", d, p, offer(1, 1, 1), []int{3})
	delivered(t, "only End is missed, with two calls", d, p, offer(1, 1, 2), []int{0, 2})
}

// TestAnswerRandom compares with all energies that the store can have.
func TestAnswerRandom(t *testing.T) {
	r := rand.New(rand.NewPCG(10, 6))
	met := map[string]int{}
	for range 3000 {
		d, p := promised(r, 6)
		o := randomOffer(r, d)
		list := tellPatterns(d, o)
		var first []int
		for _, pattern := range list {
			want, ok := tellAnswer(d, p, o, pattern)
			answered(t, "random", d, p, o, pattern, want, ok)
			switch {
			case ok && len(pattern) > 0:
				met["delivered"]++
			case ok:
				met["the empty pattern"]++
			case len(want) == 0:
				met["the first hour"]++
			case len(want) < len(d.Hours):
				met["a later hour"]++
			default:
				met["only at End"]++
			}
			if !ok && first == nil {
				first = pattern
			}
		}
		delivered(t, "random", d, p, o, first)
		if first == nil && len(list) > 1 {
			met["the offer"]++
		}
	}
	for _, name := range []string{"delivered", "the empty pattern", "the first hour", "a later hour", "only at End", "the offer"} {
		if met[name] < 30 {
			t.Error("met:", name, met[name])
		}
	}
}
