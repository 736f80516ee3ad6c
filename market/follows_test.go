package market_test

import (
	"math/rand/v2"
	"slices"
	"testing"

	"switchgear/api"
	"switchgear/market"
)

// TestCostsLeast checks that what Verify accepts costs least, whatever proof it has.
func TestCostsLeast(t *testing.T) {
	r := rand.New(rand.NewPCG(10, 8))
	accepted, others, refused := 0, 0, 0
	for range 3000 {
		d := randomDay(r, 4)
		least, is := tellBest(d)
		if !is {
			continue
		}
		p, proof := wrongly(r, d, least, tellProof(d))
		if market.Verify(d, p, proof) != api.OK {
			refused++
			continue
		}
		accepted++
		if p.Cost != least.Cost || tellCost(d, p.Starts, p.Charge) != least.Cost || !tellPossible(d, p.Starts, p.Charge) {
			t.Fatalf("%+v: %+v is accepted, but %+v costs less", d, p, least)
		}
		if !sameLists(proof, tellProof(d)) {
			others++
		}
	}
	if min(accepted, others, refused) < 300 {
		t.Error("met:", accepted, others, refused)
	}
}

// TestAllAccepted checks that of all possible plans those are accepted that cost least, with the proof of Best.
func TestAllAccepted(t *testing.T) {
	r := rand.New(rand.NewPCG(10, 9))
	met := map[bool]int{}
	for range 300 {
		d := randomDay(r, 4)
		b, proof, e := market.Best(d)
		if e != api.OK {
			continue
		}
		for _, p := range possible(d) {
			want := api.OK
			if p.Cost > b.Cost {
				want = api.ErrFalse
			}
			if e := market.Verify(d, p, proof); e != want {
				t.Fatalf("%+v: %+v: %d, but %+v is the best", d, p, e, b)
			}
			met[want == api.OK]++
		}
	}
	if min(met[true], met[false]) < 300 {
		t.Error("met:", met)
	}
}

// tellKept reports whether some way of charging delivers an offer, whatever calls come: in each hour it is known only whether a call begins in it. Wait is how many hours no call may begin, run how many hours the call that has begun still lasts.
func tellKept(d market.Day, p market.Plan, o market.Offer, hour, energy, calls, wait, run int) bool {
	if hour == len(d.Hours) {
		return energy >= d.Store.End
	}
	charged := func(calls, wait, run int) bool {
		for c := -d.Store.Power; c <= d.Store.Power; c++ {
			if energy+c < 0 || energy+c > d.Store.Full || !tellAllows(d, p, o, hour, c, run > 0) {
				continue
			}
			if tellKept(d, p, o, hour+1, energy+c, calls, max(0, wait-1), max(0, run-1)) {
				return true
			}
		}
		return false
	}
	if calls < o.Calls && wait == 0 && hour >= o.From && hour+o.Hours <= o.To && !charged(calls+1, o.Hours+o.Pause, o.Hours) {
		return false
	}
	return charged(calls, wait, run)
}

// TestDelivered checks that Deliver answers yes if and only if there is a way of charging that does not know the calls to come.
func TestDelivered(t *testing.T) {
	r := rand.New(rand.NewPCG(10, 10))
	met := map[bool]int{}
	for range 6000 {
		d, p := promised(r, 5)
		o := randomOffer(r, d)
		want := tellKept(d, p, o, 0, d.Store.Energy, 0, 0, 0)
		ok, first, e := market.Deliver(d, p, o)
		if e != api.OK || ok != want {
			t.Fatalf("%+v %+v %+v: %v %v %d, not %v", d, p, o, ok, first, e, want)
		}
		list, _ := market.Patterns(d, o)
		if len(list) > 1 {
			met[ok]++
		}
		for _, pattern := range list {
			if _, is, _ := market.Answer(d, p, o, pattern); ok && !is || !ok && !is && slices.Compare(pattern, first) < 0 {
				t.Fatalf("%+v %+v %+v: %v is not delivered, but Deliver answers %v %v", d, p, o, pattern, ok, first)
			}
		}
	}
	if min(met[true], met[false]) < 300 {
		t.Error("met:", met)
	}
}

// TestAnswers goes through all charges: Answer's are possible, none others hold more after an hour, and if Answer has none there are none.
func TestAnswers(t *testing.T) {
	r := rand.New(rand.NewPCG(10, 11))
	met := map[bool]int{}
	for range 1000 {
		d, p := promised(r, 4)
		o := randomOffer(r, d)
		all := charges(len(d.Hours), d.Store.Power)
		for _, pattern := range tellPatterns(d, o) {
			got, ok, _ := market.Answer(d, p, o, pattern)
			delivers := func(l []int) bool {
				for hour, c := range l {
					if !tellAllows(d, p, o, hour, c, isCalled(o, pattern, hour)) {
						return false
					}
				}
				return tellPossible(d, p.Starts, l)
			}
			if ok && !delivers(got) {
				t.Fatalf("%+v %+v %+v %v: %v does not deliver", d, p, o, pattern, got)
			}
			for _, l := range all {
				if !delivers(l) {
					continue
				}
				if !ok {
					t.Fatalf("%+v %+v %+v %v: %v delivers", d, p, o, pattern, l)
				}
				mine, its := 0, 0
				for hour := range l {
					mine, its = mine+got[hour], its+l[hour]
					if its > mine {
						t.Fatalf("%+v %+v %+v %v: %v holds more than %v", d, p, o, pattern, l, got)
					}
				}
			}
			met[ok]++
		}
	}
	if min(met[true], met[false]) < 300 {
		t.Error("met:", met)
	}
}

// TestUnknownCalls checks that the charges of Answer hang on the calls that have begun alone: patterns that are the same until an hour have the same charges until then.
func TestUnknownCalls(t *testing.T) {
	r := rand.New(rand.NewPCG(10, 12))
	met := 0
	begun := func(pattern []int, hour int) []int {
		return slices.DeleteFunc(slices.Clone(pattern), func(first int) bool { return first > hour })
	}
	for range 500 {
		d, p := promised(r, 5)
		o := randomOffer(r, d)
		list := tellPatterns(d, o)
		for _, a := range list {
			for _, b := range list {
				x, _, _ := market.Answer(d, p, o, a)
				y, _, _ := market.Answer(d, p, o, b)
				for hour := range min(len(x), len(y)) {
					if !slices.Equal(begun(a, hour), begun(b, hour)) {
						break
					}
					if x[hour] != y[hour] {
						t.Fatalf("%+v %+v %+v: %v for %v, %v for %v", d, p, o, x, a, y, b)
					}
					met++
				}
			}
		}
	}
	if met < 1000 {
		t.Error("met:", met)
	}
}

// TestMoreAndLess checks that the least cost is not greater with a greater Most, or a smaller Load.
func TestMoreAndLess(t *testing.T) {
	r := rand.New(rand.NewPCG(10, 13))
	met := map[string]int{}
	compare := func(name string, before, after market.Day) {
		t.Helper()
		a, _, e := market.Best(before)
		b, _, then := market.Best(after)
		switch {
		case e != api.OK && then == api.OK:
			met[name+": possible only then"]++
		case e == api.OK && (then != api.OK || b.Cost > a.Cost):
			t.Fatalf("%s: %+v costs %d, %+v costs %d (%d)", name, before, a.Cost, after, b.Cost, then)
		case e == api.OK && b.Cost < a.Cost:
			met[name+": less"]++
		case e == api.OK:
			met[name+": equal"]++
		}
	}
	for range 3000 {
		d := randomDay(r, 5)
		more := copied(d)
		more.Most++
		compare("Most", d, more)
		more.Most = market.MaxEnergy
		compare("Most", d, more)
		less := copied(d)
		hour := r.IntN(len(d.Hours))
		if less.Hours[hour].Load > 0 {
			less.Hours[hour].Load--
			compare("Load", d, less)
		}
		for hour := range less.Hours {
			less.Hours[hour].Load = 0
		}
		compare("Load", d, less)
	}
	for _, name := range []string{"Most: possible only then", "Most: less", "Most: equal", "Load: possible only then", "Load: less", "Load: equal"} {
		if met[name] < 100 {
			t.Error("met:", name, met[name])
		}
	}
}
