package flow_test

import (
	"math/rand/v2"
	"testing"

	"switchgear/api"
	"switchgear/flow"
	"switchgear/plant"
)

// greatest returns the greatest amount, and checks that Certify accepts it.
func greatest(t *testing.T, p api.Plant, s api.State) int {
	t.Helper()
	x, cut, e := flow.Serve(p, s)
	if e != api.OK {
		t.Fatalf("%+v %+v: %d", p, s, e)
	}
	if e := flow.Certify(p, s, x, cut); e != api.OK {
		t.Fatalf("%+v %+v: certified %d", p, s, e)
	}
	return flow.Amount(x)
}

// TestMoreServesMore adds a link and a source, and lets each part fail.
func TestMoreServesMore(t *testing.T) {
	r := rand.New(rand.NewPCG(13, 14))
	for range 200 {
		p := randomPlant(r, from(r, 2, 10))
		s := randomState(r, t, p)
		amount := greatest(t, p, s)
		parts, _ := plant.Parts(p)
		for _, x := range parts {
			if u, e := plant.Break(p, s, x); e != api.OK || greatest(t, p, u) > amount {
				t.Fatal("a failure raised the amount", p, s, x, e)
			}
		}
		q, u := p, copyState(s)
		a := r.IntN(p.Buses)
		q.Links = append(q.Links[:len(q.Links):len(q.Links)], api.Link{A: a, B: (a + 1) % p.Buses, Kind: api.Switch, Most: from(r, 1, 9), Ohm: 10})
		u.Closed, u.Locked, u.BadLink = append(u.Closed, true), append(u.Locked, false), append(u.BadLink, false)
		if greatest(t, q, u) < amount {
			t.Fatal("a link lowered the amount", q, u)
		}
		q, u = p, copyState(s)
		q.Sources = append(q.Sources[:len(q.Sources):len(q.Sources)], api.Source{Bus: a, Kind: api.Battery, Power: from(r, 1, 9), Ohm: 10})
		u.On, u.BadSource = append(u.On, true), append(u.BadSource, false)
		if greatest(t, q, u) < amount {
			t.Fatal("a source lowered the amount", q, u)
		}
	}
}

// TestShortWayIsAWay follows the short ways of great plants, and checks that no other link would make one shorter.
func TestShortWayIsAWay(t *testing.T) {
	r := rand.New(rand.NewPCG(15, 16))
	for range 100 {
		p := randomPlant(r, api.MaxBuses)
		s := randomState(r, t, p)
		ohms := map[[2]int]int{}
		for bus := range p.Buses {
			l, e := flow.Shorts(p, s, bus)
			if e != api.OK {
				t.Fatal(e)
			}
			for _, x := range l {
				if ohms[[2]int{x.Source, bus}] = x.Ohm; !leads(p, s, x, bus) {
					t.Fatalf("%+v %+v: %+v is no way to %d", p, s, x, bus)
				}
			}
		}
		for i, x := range p.Links {
			for source := range p.Sources {
				a, fed := ohms[[2]int{source, x.A}]
				b, also := ohms[[2]int{source, x.B}]
				if conducts(p, s, i) && (fed != also || max(a, b)-min(a, b) > x.Ohm) {
					t.Fatalf("%+v %+v: %d %d over link %d", p, s, a, b, i)
				}
			}
		}
	}
}

// leads reports whether a short's links are a way from its source to a bus that has its resistance and meets no bus twice.
func leads(p api.Plant, s api.State, x flow.Short, bus int) bool {
	at, ohm := p.Sources[x.Source].Bus, p.Sources[x.Source].Ohm
	met := map[int]bool{at: true}
	for _, i := range x.Links {
		link := p.Links[i]
		switch at {
		case link.A:
			at = link.B
		case link.B:
			at = link.A
		default:
			return false
		}
		if met[at] || !conducts(p, s, i) {
			return false
		}
		met[at] = true
		ohm += link.Ohm
	}
	return at == bus && ohm == x.Ohm
}
