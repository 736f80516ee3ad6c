package house_test

import (
	"math/rand/v2"
	"slices"
	"testing"

	"switchgear/api"
	"switchgear/bank"
	"switchgear/flow"
	"switchgear/guard"
	"switchgear/heat"
	"switchgear/house"
	"switchgear/meter"
	"switchgear/paths"
	"switchgear/plant"
)

// randomOrders returns orders for a house of a setup.
func randomOrders(r *rand.Rand, c house.Setup, n int) []house.Order {
	var l []house.Order
	for range n {
		l = append(l, randomOrder(r, c))
	}
	return l
}

// TestAgainstWords gives random orders to random houses, and compares all that houses show with the chapter's words.
func TestAgainstWords(t *testing.T) {
	r := rand.New(rand.NewPCG(14, 1))
	met := map[house.Kind]map[api.Errno]int{}
	for kind := house.Kind(-1); kind <= 8; kind++ {
		met[kind] = map[api.Errno]int{}
	}
	dark, lit, retired := 0, 0, 0
	for range 500 {
		c := randomSetup(r)
		h, m := open(t, c), newModel(c)
		for _, o := range randomOrders(r, c, 40) {
			want := m.act(o)
			if x := h.Act(o); !same(x, want) {
				t.Fatalf("%+v: %+v: %+v, not %+v", c, o, x, want)
			}
			if s := look(t, h); !same(s, m.seen()) {
				t.Fatalf("%+v: %+v: %+v", c, o, s)
			}
			met[o.Kind][want.Error]++
			dark, lit = dark+len(want.Dark), lit+len(want.Lit)
		}
		if s := lookWhole(t, h); !same(s, m.seenWhole()) {
			t.Fatalf("%+v: %+v, not %+v", c, s, m.seenWhole())
		}
		for _, is := range m.retired {
			if is {
				retired++
			}
		}
	}
	for kind, least := range map[house.Kind]map[api.Errno]int{
		house.Fault:   {api.OK: 500, api.ErrPart: 50},
		house.Mend:    {api.OK: 500, api.ErrPart: 50},
		house.Switch:  {api.OK: 500, api.ErrArg: 100, api.ErrDone: 100, api.ErrBad: 20, api.ErrLocked: 10, api.ErrArc: 5, api.ErrEarthed: 20, api.ErrParallel: 10, api.ErrDark: 20},
		house.Hour:    {api.OK: 500},
		house.Destroy: {api.OK: 100, api.ErrRange: 100, api.ErrRack: 100},
		house.Retire:  {api.OK: 50, api.ErrState: 100, api.ErrDone: 50, api.ErrRack: 100},
	} {
		for e, n := range least {
			if met[kind][e] < n {
				t.Error("met:", kind, met[kind])
			}
		}
	}
	if min(dark, lit, retired) < 100 {
		t.Error("met:", dark, lit, retired)
	}
}

// TestRunInParts runs some orders, and lets each of the others act: that is a run of all.
func TestRunInParts(t *testing.T) {
	r := rand.New(rand.NewPCG(14, 2))
	for range 150 {
		c := randomSetup(r)
		l := randomOrders(r, c, 30)
		whole, events, e := house.Run(c, l)
		if e != api.OK || len(events) != len(l) {
			t.Fatal(e)
		}
		n := r.IntN(len(l) + 1)
		h, first, e := house.Run(c, l[:n])
		if e != api.OK {
			t.Fatal(e)
		}
		for _, o := range l[n:] {
			first = append(first, h.Act(o))
		}
		if !same(first, events) || !same(lookWhole(t, h), lookWhole(t, whole)) {
			t.Fatalf("%+v: %+v", c, l)
		}
	}
}

// TestAccounts adds up the kilowatts: what is metered is the demand less that of the racks in the dark, the chain is right, and the bills have as much energy as the rows.
func TestAccounts(t *testing.T) {
	r := rand.New(rand.NewPCG(14, 3))
	inTheDark := 0
	for range 200 {
		c := randomSetup(r)
		h := open(t, c)
		for _, o := range randomOrders(r, c, 40) {
			state, _ := h.State()
			retired, _ := h.Retired()
			if x := h.Act(o); o.Kind != house.Hour || x.Error != api.OK {
				continue
			}
			fed, _ := plant.Fed(c.Plant, state)
			lost := 0
			for rack, x := range c.Plant.Racks {
				if !retired[rack] && fed[rack] == [2]bool{} {
					lost += x.Power
					inTheDark++
				}
			}
			l, _ := h.Rows()
			if row := l[len(l)-1]; row.Metered != row.Demand-lost || row.Served > row.Metered {
				t.Fatalf("%+v: %+v, %d are lost", c, row, lost)
			}
		}
		s := look(t, h)
		if n, e := meter.Verify(c.Key, s.chain); n != len(s.chain) || e != api.OK {
			t.Fatal(n, e)
		}
		energy, metered := 0, 0
		for _, x := range s.bills {
			energy += x.Energy
		}
		for _, x := range s.rows {
			metered += x.Metered
		}
		if energy != metered {
			t.Fatalf("%+v: %d are billed, %d metered", c, energy, metered)
		}
	}
	if inTheDark < 200 {
		t.Error("met:", inTheDark)
	}
}

// TestTwoPathsHold lets each part fail of houses against whose two paths Commission finds nothing, and of others.
func TestTwoPathsHold(t *testing.T) {
	r := rand.New(rand.NewPCG(14, 4))
	kept, broken := 0, 0
	for range 600 {
		c := randomSetup(r)
		findings, e := house.Commission(c, house.Claims{Two: true})
		if e != api.OK {
			t.Fatal(e)
		}
		promised := func(racks []int) bool {
			return slices.ContainsFunc(racks, func(rack int) bool { return c.Plant.Racks[rack].Paths == 2 })
		}
		l, _ := plant.Parts(c.Plant)
		for _, x := range l {
			event := open(t, c).Act(fault(x))
			switch {
			case len(findings) == 0 && promised(event.Dark):
				t.Fatalf("%+v: %v: %v", c, x, event)
			case len(findings) == 0:
				kept++
			case promised(event.Dark):
				broken++
			}
		}
	}
	if min(kept, broken) < 100 {
		t.Error("met:", kept, broken)
	}
}

// fails calls a function for each list of fails of generators whose sum is at most most.
func fails(g []bank.Generator, most int, f func(l []int)) {
	l := make([]int, len(g))
	var set func(i, left int)
	set = func(i, left int) {
		if i == len(g) {
			f(l)
			return
		}
		for l[i] = 0; l[i] <= min(g[i].Tries, left); l[i]++ {
			set(i+1, left-l[i])
		}
	}
	set(0, most)
}

// TestRideHolds plays what may happen before Ride has passed: no bank is dark, and no room too hot; with one second more one of them may be.
func TestRideHolds(t *testing.T) {
	r := rand.New(rand.NewPCG(14, 5))
	short := 0
	for range 150 {
		c := randomSetup(r)
		h := open(t, c)
		for _, o := range randomOrders(r, c, 5) {
			h.Act(o)
		}
		x, e := h.Ride()
		if e != api.OK {
			t.Fatal(e)
		}
		state, _ := h.State()
		retired, _ := h.Retired()
		fed, _ := plant.Fed(c.Plant, state)
		power := 0
		for rack, y := range c.Plant.Racks {
			if !retired[rack] && fed[rack] != [2]bool{} {
				power += y.Power
			}
		}
		first := bank.MaxHold
		fails(c.Bank.Generators, c.Fails, func(l []int) {
			y, e := bank.Run(c.Bank, []bank.Span{{Seconds: 3000, Power: power}, {Seconds: 1000, Power: power}}, l)
			if e != api.OK {
				t.Fatal(e)
			}
			if y.Dark >= 0 {
				first = min(first, y.Dark)
			}
		})
		if x.Power != first || x.Seconds != min(x.Power, x.Heat) {
			t.Fatalf("%+v: %+v, not %d", c, x, first)
		}
		now := c.Heat
		for range x.Seconds {
			k := c.Class.High
			k.Load = slices.Clone(k.Load)
			if often(r, 30) {
				for i := range k.Load {
					k.Load[i] = from(r, c.Class.Low.Load[i], k.Load[i])
				}
				k.Out, k.Pump = from(r, c.Class.Low.Out, k.Out), from(r, k.Pump, c.Class.Low.Pump)
			}
			now, _ = heat.Next(c.Hall, now, k)
			for i, room := range c.Hall.Rooms {
				if now[i] > room.Limit {
					t.Fatalf("%+v: too hot: %v", c, now)
				}
			}
		}
		if x.Seconds < 4000 {
			short++
		}
	}
	if short < 50 {
		t.Error("met:", short)
	}
}

// TestDisksAndRacks adds up the disks: those destroyed and those left are those of the setup; a retired rack has none.
func TestDisksAndRacks(t *testing.T) {
	r := rand.New(rand.NewPCG(14, 6))
	destroyed := 0
	for range 300 {
		c := randomSetup(r)
		gone := make([]int, len(c.Disks))
		h := open(t, c)
		for _, o := range randomOrders(r, c, 40) {
			if x := h.Act(o); x.Error == api.OK && o.Kind == house.Destroy {
				gone[o.Rack] += o.Count
				destroyed += o.Count
			}
			left, _ := h.Disks()
			retired, _ := h.Retired()
			for rack, n := range left {
				if n+gone[rack] != c.Disks[rack] || n < 0 || retired[rack] && n != 0 {
					t.Fatalf("%+v: %v, %v are gone, %v", c, left, gone, retired)
				}
			}
		}
	}
	if destroyed < 500 {
		t.Error("met:", destroyed)
	}
}

// against returns what contradicts claims, by the chapter's words.
func against(c house.Setup, l house.Claims) []house.Finding {
	m := newModel(c)
	var list []house.Finding
	if breaches, _ := paths.Promise(c.Plant, m.state, c.Transfers); l.Two {
		for _, x := range breaches {
			list = append(list, house.Finding{Claim: 1, Rack: x.Rack, Part: x.Part})
		}
	}
	for i := range c.Plant.Buses {
		if ok, _ := guard.Selective(c.Plant, m.state, i); l.Selective && !ok {
			list = append(list, house.Finding{Claim: 2, Part: bus(i)})
		}
	}
	for i := range c.Plant.Buses {
		if x, _ := guard.Clear(c.Plant, m.state, i); l.Arc > 0 && x.Energy > l.Arc {
			list = append(list, house.Finding{Claim: 3, Part: bus(i), Value: x.Energy})
		}
	}
	if x, e := m.ride(); l.Ride > 0 && (e != api.OK || x.Seconds < l.Ride) {
		list = append(list, house.Finding{Claim: 4, Value: x.Seconds})
	}
	return list
}

// TestCommissionAgainstWords checks random claims of random setups.
func TestCommissionAgainstWords(t *testing.T) {
	r := rand.New(rand.NewPCG(14, 7))
	met := [5]int{}
	for range 400 {
		c := randomSetup(r)
		if often(r, 10) {
			c.Bank.Generators = slices.Repeat([]bank.Generator{{Tries: 5}}, 4)
		}
		l := house.Claims{Two: often(r, 60), Selective: often(r, 60), Arc: []int{0, -1, 1, 1000000, 5000000, 1 << 40}[r.IntN(6)], Ride: []int{-1, 0, 1, 20, 100, 4000, 4001}[r.IntN(7)]}
		x, e := house.Commission(c, l)
		if want := against(c, l); e != api.OK || !slices.Equal(x, want) {
			t.Fatalf("%+v: %+v: %+v %d, not %+v", c, l, x, e, want)
		}
		for _, y := range x {
			met[y.Claim]++
		}
	}
	if min(met[1], met[2], met[3], met[4]) < 50 {
		t.Error("met:", met)
	}
}

// TestStrandedAgainstWords looks for stranded capacity in random setups: no more is usable than the sources have.
func TestStrandedAgainstWords(t *testing.T) {
	r := rand.New(rand.NewPCG(14, 8))
	tight := 0
	for range 400 {
		c := randomSetup(r)
		c.State.BadBus[r.IntN(c.Plant.Buses)] = true
		if house.Check(c) != api.OK {
			continue
		}
		s := newModel(c).state
		var want house.Strand
		for i, x := range c.Plant.Sources {
			if s.On[i] && !s.BadSource[i] && !s.BadBus[x.Bus] {
				want.Power += x.Power
			}
		}
		p := copied(c.Plant)
		for i := range p.Racks {
			p.Racks[i].Power = 100000
		}
		x, _, _ := flow.Serve(p, s)
		want.Usable = flow.Amount(x)
		want.Tight, _ = flow.Tight(p, s)
		if y, e := house.Stranded(c); !same(y, want) || e != api.OK || y.Usable > y.Power {
			t.Fatalf("%+v: %+v %d, not %+v", c, y, e, want)
		}
		tight += len(want.Tight)
	}
	if tight < 200 {
		t.Error("met:", tight)
	}
}
