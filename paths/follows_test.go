package paths_test

import (
	"math/rand/v2"
	"slices"
	"testing"

	"switchgear/api"
	"switchgear/paths"
)

// TestFollows checks what the chapter says that follows.
func TestFollows(t *testing.T) {
	r := rand.New(rand.NewPCG(5, 6))
	two, one, acted, broke := 0, 0, 0, 0
	for range 2000 {
		p := randomPlant(r)
		s := randomState(r, t, p, from(r, 10, 100))
		l := randomTransfers(r, p, 8)
		for rack := range p.Racks {
			n, _ := paths.Strength(p, s, rack)
			critical, _ := paths.Critical(p, s, rack)
			if fed := fedIn(p, s, rack); fed != (n >= 1) || fed && (n == 2) != (len(critical) == 0) {
				t.Error("strength", n, "critical", critical, "fed", fed)
			}
			if n == 2 {
				two++
				staysFed(t, p, s, l, rack)
			} else {
				one += n
			}
			for _, way := range allWays(p, s, rack) {
				if slices.ContainsFunc(critical, func(x api.Part) bool { return !slices.Contains(way, x) }) {
					t.Error("not on the way:", critical, way)
				}
			}
		}
		list, _ := paths.Promise(p, s, l)
		for _, x := range list {
			critical, _ := paths.Critical(p, s, x.Rack)
			if x.Part != (api.Part{}) && !slices.Contains(critical, x.Part) {
				t.Error("not critical:", x, critical)
			}
		}
		acted += onlyHelps(t, p, s, l)
		broke += len(list)
		if t.Failed() {
			t.Fatalf("%+v %+v %v", p, s, l)
		}
	}
	if min(two, one, acted, broke) < 200 {
		t.Error("met:", two, one, acted, broke)
	}
}

// staysFed checks that a rack is fed after each single failure, with and without transfers.
func staysFed(t *testing.T, p api.Plant, s api.State, l []paths.Transfer, rack int) {
	t.Helper()
	for _, x := range wholeParts(s) {
		for _, transfers := range [][]paths.Transfer{nil, l} {
			if u, e := paths.After(p, s, transfers, []api.Part{x}); e != api.OK || !fedIn(p, u, rack) {
				t.Error("not fed after", x, e)
			}
		}
	}
}

// onlyHelps checks that settling makes no live bus dead, no earthed bus live and no sources clash, and returns how many transfers have acted.
func onlyHelps(t *testing.T, p api.Plant, s api.State, l []paths.Transfer) int {
	t.Helper()
	u, order, e := paths.Settle(p, s, l)
	if e != api.OK {
		t.Fatal(e)
	}
	before, after := liveIn(p, s), liveIn(p, u)
	for b := range p.Buses {
		if before[b] && !after[b] || !before[b] && after[b] && s.Earthed[b] {
			t.Error("bus", b, before[b], after[b], s.Earthed[b])
		}
	}
	for a := range p.Sources {
		for b := range a {
			if clashIn(p, u, a, b) && !clashIn(p, s, a, b) {
				t.Error("sources clash:", a, b)
			}
		}
	}
	for _, i := range order {
		if !after[l[i].Watch] {
			t.Error("not live after its transfer has acted:", l[i])
		}
	}
	again, more, e := paths.Settle(p, u, l)
	if e != api.OK || len(more) > 0 || !sameState(again, u) {
		t.Error("not settled:", order, more, e)
	}
	return len(order)
}
