package market_test

import (
	"math"
	"math/rand/v2"
	"slices"
	"testing"

	"switchgear/api"
	"switchgear/market"
)

// offerErrors returns the error of each function that asks for an offer.
func offerErrors(d market.Day, o market.Offer) []api.Errno {
	p := idle(d)
	_, ofPatterns := market.Patterns(d, o)
	_, _, ofAnswer := market.Answer(d, p, o, nil)
	_, _, ofDeliver := market.Deliver(d, p, o)
	return []api.Errno{ofPatterns, ofAnswer, ofDeliver}
}

// offered compares the errors of an offer with one that all should be.
func offered(t *testing.T, name string, d market.Day, o market.Offer, want api.Errno) {
	t.Helper()
	if l := offerErrors(d, o); !slices.Equal(l, []api.Errno{want, want, want}) {
		t.Errorf("%s: %d, not %d: %+v", name, l, want, o)
	}
}

// TestOfferNumbers has each number of an offer at its limits and beyond.
func TestOfferNumbers(t *testing.T) {
	d := flat(9, market.Hour{Buy: 5, Load: 1})
	sets := map[bound]func(o *market.Offer, n int){
		{"From", 0, 9}:                   func(o *market.Offer, n int) { o.From, o.To = n, 9 },
		{"From before To", 0, 4}:         func(o *market.Offer, n int) { o.From, o.To = n, 4 },
		{"To", 0, 9}:                     func(o *market.Offer, n int) { o.From, o.To = 0, n },
		{"To after From", 4, 9}:          func(o *market.Offer, n int) { o.From, o.To = 4, n },
		{"To after the last hour", 9, 9}: func(o *market.Offer, n int) { o.From, o.To = 9, n },
		{"Power", 1, 40}:                 func(o *market.Offer, n int) { o.Power = n },
		{"Calls", 0, 4}:                  func(o *market.Offer, n int) { o.Calls = n },
		{"Pause", 0, 24}:                 func(o *market.Offer, n int) { o.Pause = n },
	}
	for b, set := range sets {
		for n, want := range b.around() {
			if want != api.OK {
				want = api.ErrOffer
			}
			for _, o := range []market.Offer{{Power: 1, Hours: 1}, {From: 2, To: 7, Power: 40, Hours: 3, Calls: 2, Pause: 1}} {
				set(&o, n)
				offered(t, b.name, d, o, want)
			}
		}
	}
	for n, want := range map[int]api.Errno{
		0: api.ErrOffer, -1: api.ErrOffer, -24: api.ErrOffer, math.MinInt: api.ErrOffer,
		1: api.OK, 2: api.OK, 5: api.OK, 6: api.OK, 24: api.OK, 25: api.OK, 1 << 40: api.OK, math.MaxInt - 1: api.OK, math.MaxInt: api.OK,
	} {
		offered(t, "Hours", d, market.Offer{From: 2, To: 7, Power: 1, Hours: n, Calls: 4, Pause: 24}, want)
		offered(t, "Hours without a call", d, market.Offer{From: 9, To: 9, Power: 1, Hours: n}, want)
	}
	offered(t, "nothing", d, market.Offer{}, api.ErrOffer)
	offered(t, "From after To", d, market.Offer{From: 5, To: 4, Power: 1, Hours: 1}, api.ErrOffer)
	offered(t, "From after To after the last hour", d, market.Offer{From: 11, To: 10, Power: 1, Hours: 1}, api.ErrOffer)
	day := flat(24, market.Hour{})
	offered(t, "a day of 24 hours", day, market.Offer{From: 0, To: 24, Power: 1, Hours: 1}, api.OK)
	offered(t, "more than 24 hours", day, market.Offer{From: 0, To: 25, Power: 1, Hours: 1}, api.ErrOffer)
	offered(t, "a day of an hour", flat(1, market.Hour{}), market.Offer{From: 0, To: 2, Power: 1, Hours: 1}, api.ErrOffer)
}

// patterns calls Patterns and compares.
func patterns(t *testing.T, name string, d market.Day, o market.Offer, want ...[]int) {
	t.Helper()
	if l, e := market.Patterns(d, o); e != api.OK || !sameLists(l, want) {
		t.Errorf("%s: %v %d, not %v", name, l, e, want)
	}
}

func TestPatterns(t *testing.T) {
	d := flat(6, market.Hour{Buy: 5, Load: 1})
	offer := func(from, to, hours, calls, pause int) market.Offer {
		return market.Offer{From: from, To: to, Power: 1, Hours: hours, Calls: calls, Pause: pause}
	}
	patterns(t, "example 2", chapter(), market.Offer{From: 0, To: 1, Power: 2, Hours: 1, Calls: 1}, nil, []int{0})
	patterns(t, "no call allowed", d, offer(0, 6, 1, 0, 0), []int{})
	patterns(t, "no hour", d, offer(3, 3, 1, 4, 0), nil)
	patterns(t, "after the last hour", d, offer(6, 6, 1, 4, 0), nil)
	patterns(t, "one hour", d, offer(5, 6, 1, 4, 0), nil, []int{5})
	patterns(t, "a call", d, offer(1, 4, 1, 1, 0), nil, []int{1}, []int{2}, []int{3})
	patterns(t, "a call of 2 hours", d, offer(1, 4, 2, 1, 0), nil, []int{1}, []int{2})
	patterns(t, "a call that just fits", d, offer(1, 4, 3, 1, 0), nil, []int{1})
	patterns(t, "a call that does not fit", d, offer(1, 4, 4, 1, 0), nil)
	patterns(t, "a call that is longer than the day", d, offer(0, 6, 7, 4, 24), nil)
	patterns(t, "a call that is as long as the day", d, offer(0, 6, 6, 4, 24), nil, []int{0})
	patterns(t, "calls that are very long", d, offer(0, 6, math.MaxInt, 4, 24), nil)
	patterns(t, "calls that touch", d, offer(1, 4, 1, 2, 0), nil, []int{1}, []int{1, 2}, []int{1, 3}, []int{2}, []int{2, 3}, []int{3})
	patterns(t, "three calls that touch", d, offer(1, 4, 1, 3, 0), nil, []int{1}, []int{1, 2}, []int{1, 2, 3}, []int{1, 3}, []int{2}, []int{2, 3}, []int{3})
	patterns(t, "more calls than hours", d, offer(1, 3, 1, 4, 0), nil, []int{1}, []int{1, 2}, []int{2})
	patterns(t, "calls of 2 hours that touch", d, offer(0, 5, 2, 4, 0), nil, []int{0}, []int{0, 2}, []int{0, 3}, []int{1}, []int{1, 3}, []int{2}, []int{3})
	patterns(t, "a pause that is just kept", d, offer(0, 5, 2, 4, 1), nil, []int{0}, []int{0, 3}, []int{1}, []int{2}, []int{3})
	patterns(t, "a pause of one hour too short", d, offer(0, 5, 2, 4, 2), nil, []int{0}, []int{1}, []int{2}, []int{3})
	patterns(t, "a pause of an hour", d, offer(0, 4, 1, 4, 1), nil, []int{0}, []int{0, 2}, []int{0, 3}, []int{1}, []int{1, 3}, []int{2}, []int{3})
	patterns(t, "a pause of two hours", d, offer(0, 4, 1, 4, 2), nil, []int{0}, []int{0, 3}, []int{1}, []int{2}, []int{3})
	patterns(t, "a pause as long as a day", d, offer(4, 6, 1, 4, 24), nil, []int{4}, []int{5})
	patterns(t, "Power does not matter", d, market.Offer{From: 0, To: 1, Power: 40, Hours: 1, Calls: 4}, nil, []int{0})
}

// choose returns in how many ways k of n can be chosen.
func choose(n, k int) int {
	x := 1
	for i := range k {
		x = x * (n - i) / (i + 1)
	}
	return x
}

// TestManyPatterns has numbers of patterns on both sides of 4096: no offer has just so many, those next to it have 4048 and 4241.
func TestManyPatterns(t *testing.T) {
	d := flat(24, market.Hour{Buy: 5, Load: 1})
	offer := func(to, hours, pause int) market.Offer {
		return market.Offer{From: 0, To: to, Power: 1, Hours: hours, Calls: 4, Pause: pause}
	}
	for _, c := range []struct {
		o market.Offer
		n int
	}{
		{offer(17, 1, 0), 3214}, {offer(20, 1, 1), 3388}, {offer(21, 2, 0), 3388}, {offer(24, 2, 1), 3583}, {offer(18, 1, 0), 4048},
	} {
		l, e := market.Patterns(d, c.o)
		if e != api.OK || len(l) != c.n {
			t.Errorf("%+v: %d %d, not %d", c.o, len(l), e, c.n)
		}
		if !slices.IsSortedFunc(l, slices.Compare) || len(l) > 0 && len(l[0]) > 0 {
			t.Errorf("%+v: not in order", c.o)
		}
		offered(t, "just not too many", d, c.o, api.OK)
		later := c.o
		later.From, later.To = 24-c.o.To, 24
		offered(t, "just not too many, later", d, later, api.OK)
	}
	for _, o := range []market.Offer{offer(21, 1, 1), offer(22, 2, 0), offer(24, 1, 2), offer(19, 1, 0), offer(24, 1, 0), {From: 5, To: 24, Power: 40, Hours: 1, Calls: 4}} {
		offered(t, "too many", d, o, api.ErrLarge)
		if l, _ := market.Patterns(d, o); len(l) != 0 {
			t.Error(o, len(l))
		}
	}
	for calls, n := range []int{1, 1 + 24, 1 + 24 + choose(24, 2), 1 + 24 + choose(24, 2) + choose(24, 3)} {
		if l, e := market.Patterns(d, market.Offer{From: 0, To: 24, Power: 1, Hours: 1, Calls: calls}); e != api.OK || len(l) != n {
			t.Error(calls, len(l), e)
		}
	}
	offered(t, "too many, and a number", d, market.Offer{From: 0, To: 24, Power: 41, Hours: 1, Calls: 4}, api.ErrOffer)
}

// TestPatternsRandom compares with all sets of hours.
func TestPatternsRandom(t *testing.T) {
	r := rand.New(rand.NewPCG(10, 5))
	met := [5]int{}
	for range 6000 {
		d := flat(from(r, 1, 10), market.Hour{})
		o := market.Offer{Power: 1, Hours: from(r, 1, 3), Calls: from(r, 0, 4), Pause: max(0, from(r, -2, 2)), From: from(r, 0, len(d.Hours))}
		if r.IntN(2) > 0 {
			o.From = 0
		}
		o.To = from(r, o.From, len(d.Hours))
		want := tellPatterns(d, o)
		patterns(t, "random", d, o, want...)
		longest := 0
		for _, l := range want {
			longest = max(longest, len(l))
		}
		met[longest]++
	}
	if slices.Min(met[:]) < 30 {
		t.Error("met:", met)
	}
}
