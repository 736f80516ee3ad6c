package plant_test

import (
	"math/rand/v2"
	"slices"
	"testing"

	"switchgear/api"
	"switchgear/plant"
)

// reaches returns which buses can be reached from a bus over links that conduct; none if the bus has failed.
func reaches(p api.Plant, s api.State, from int) []bool {
	met := make([]bool, p.Buses)
	met[from] = !s.BadBus[from]
	for range p.Buses {
		for i, x := range p.Links {
			if s.Closed[i] && !s.BadLink[i] && !s.BadBus[x.A] && !s.BadBus[x.B] && (met[x.A] || met[x.B]) {
				met[x.A], met[x.B] = true, true
			}
		}
	}
	return met
}

// expected returns what the chapter's words say of a state, by another way than the program's.
func expected(p api.Plant, s api.State) (islands []plant.Island, live []bool, fed [][2]bool, clashes [][2]int) {
	live = make([]bool, p.Buses)
	for bus := range p.Buses {
		met := reaches(p, s, bus)
		x := plant.Island{}
		for b, ok := range met {
			if ok {
				x.Buses = append(x.Buses, b)
			}
		}
		for i, source := range p.Sources {
			if s.On[i] && !s.BadSource[i] && met[source.Bus] {
				x.Sources = append(x.Sources, i)
				live[bus] = true
			}
		}
		if met[bus] && slices.Index(met, true) == bus {
			islands = append(islands, x)
		}
	}
	for _, x := range p.Racks {
		fed = append(fed, [2]bool{live[x.Feeds[0]], x.Feeds[1] != -1 && live[x.Feeds[1]]})
	}
	for a := range p.Sources {
		for b := range p.Sources {
			for _, x := range islands {
				together := a < b && slices.Contains(x.Sources, a) && slices.Contains(x.Sources, b)
				if together && (p.Sources[a].Sync == 0 || p.Sources[b].Sync == 0 || p.Sources[a].Sync != p.Sources[b].Sync) {
					clashes = append(clashes, [2]int{a, b})
				}
			}
		}
	}
	return islands, live, fed, clashes
}

// TestWaysToSources compares with a search for ways from each bus.
func TestWaysToSources(t *testing.T) {
	r := rand.New(rand.NewPCG(1, 1))
	for n := range 2000 {
		p := randomPlant(r, []int{4, 8, api.MaxBuses}[n%3])
		s := randomState(r, t, p)
		kept := copyState(s)
		islands, live, fed, clashes := expected(p, s)
		looks(t, "random", p, s, islands, live, clashes)
		if l, e := plant.Fed(p, s); e != api.OK || !slices.Equal(l, fed) {
			t.Error(l, e)
		}
		if !sameState(s, kept) {
			t.Error("the argument was changed")
		}
		if t.Failed() {
			t.Fatalf("%+v %+v", p, s)
		}
	}
}

// TestFailuresAndClosings checks what failures and closings never do.
func TestFailuresAndClosings(t *testing.T) {
	r := rand.New(rand.NewPCG(2, 2))
	for range 200 {
		p := randomPlant(r, 10)
		s := randomState(r, t, p)
		live, _ := plant.Live(p, s)
		clashes, _ := plant.Clashes(p, s)
		parts, _ := plant.Parts(p)
		for _, x := range parts {
			u, e := plant.Break(p, s, x)
			after, f := plant.Live(p, u)
			more, g := plant.Clashes(p, u)
			if e != api.OK || f != api.OK || g != api.OK {
				t.Fatal(x, e, f, g)
			}
			if !implies(after, live) || slices.ContainsFunc(more, func(c [2]int) bool { return !slices.Contains(clashes, c) }) {
				t.Fatal("a failure brought something", p, s, x)
			}
		}
		for i := range p.Links {
			u := copyState(s)
			u.Closed[i] = true
			if after, e := plant.Live(p, u); e != api.OK || !implies(live, after) {
				t.Fatal("a closing took something", p, s, i)
			}
		}
	}
}

// implies reports whether b is true where a is.
func implies(a, b []bool) bool {
	for i := range a {
		if a[i] && !b[i] {
			return false
		}
	}
	return true
}

// TestWrittenIsRead checks that texts are read as what was written.
func TestWrittenIsRead(t *testing.T) {
	r := rand.New(rand.NewPCG(3, 3))
	for range 500 {
		p := randomPlant(r, api.MaxBuses)
		text, e := plant.Format(p)
		q, n, f := plant.Parse(text)
		if e != api.OK || f != api.OK || n != 0 || !samePlant(p, q) {
			t.Fatal(text, e, n, f)
		}
		s := randomState(r, t, p)
		text, e = plant.Show(p, s)
		u, f := plant.Read(p, text)
		if e != api.OK || f != api.OK || !sameState(s, u) {
			t.Fatal(text, e, f)
		}
	}
}

// TestReadIsWritten changes single bytes of texts: what is still read must be what is written.
func TestReadIsWritten(t *testing.T) {
	r := rand.New(rand.NewPCG(4, 4))
	p := mixed()
	shown, _ := plant.Show(p, start(t, p, 1, 2))
	bytes := "0123456789-+: \n\r\tabegrst\x00\xff"
	for range 50000 {
		if q, _, e := plant.Parse(spoilt(r, mixedText, bytes)); e == api.OK {
			if text, e := plant.Format(q); e != api.OK || plantOf(t, text) == nil {
				t.Fatal(text, e)
			}
		} else if !samePlant(q, api.Plant{}) {
			t.Fatal(q, e)
		}
		text := spoilt(r, shown, bytes)
		if u, e := plant.Read(p, text); e == api.OK {
			if again, e := plant.Show(p, u); e != api.OK || again != text {
				t.Fatalf("%q %q %d", text, again, e)
			}
		} else if e != api.ErrForm || !zeroState(u) {
			t.Fatal(u, e)
		}
	}
}

// spoilt returns a text in which a byte is replaced, removed or added.
func spoilt(r *rand.Rand, text, bytes string) string {
	i := r.IntN(len(text))
	b := string(bytes[r.IntN(len(bytes))])
	switch r.IntN(3) {
	case 0:
		return text[:i] + b + text[i+1:]
	case 1:
		return text[:i] + text[i+1:]
	}
	return text[:i] + b + text[i:]
}

// plantOf returns the plant of a text that is written by Format.
func plantOf(t *testing.T, text string) *api.Plant {
	t.Helper()
	p, n, e := plant.Parse(text)
	if e != api.OK || n != 0 {
		t.Fatal(text, n, e)
	}
	return &p
}
