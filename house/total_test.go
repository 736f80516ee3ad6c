package house_test

import (
	"math"
	"math/rand/v2"
	"reflect"
	"slices"
	"testing"

	"switchgear/api"
	"switchgear/bank"
	"switchgear/heat"
	"switchgear/house"
	"switchgear/meter"
	"switchgear/paths"
	"switchgear/steps"
)

// TestNoHouse calls all methods of houses that Open and Run did not return.
func TestNoHouse(t *testing.T) {
	opened := acted(t, site(), hour)
	before := lookWhole(t, opened)
	copied := *opened
	var holder struct{ house.House }
	for name, h := range map[string]*house.House{"nil": nil, "zero": {}, "new": new(house.House), "a copy": &copied, "one in a struct": &holder.House} {
		for _, o := range []house.Order{{}, {Kind: 7}, hour, fault(bus(0)), fault(api.Part{}), mend(bus(0)), do(api.Lock, 0), destroy(0, 1), destroy(9, 9), retire(3)} {
			if x := h.Act(o); !same(x, house.Event{Error: api.ErrNil}) {
				t.Error(name, o, x)
			}
		}
		if s, e := h.State(); !same(s, api.State{}) || e != api.ErrNil {
			t.Error(name, s, e)
		}
		if l, e := h.Rows(); len(l) != 0 || e != api.ErrNil {
			t.Error(name, l, e)
		}
		if l, e := h.Chain(); len(l) != 0 || e != api.ErrNil {
			t.Error(name, l, e)
		}
		if l, e := h.Disks(); len(l) != 0 || e != api.ErrNil {
			t.Error(name, l, e)
		}
		if l, e := h.Retired(); len(l) != 0 || e != api.ErrNil {
			t.Error(name, l, e)
		}
		for _, rack := range []int{0, -1, 99} {
			if b, e := h.Bill(rack); b != (meter.Bill{}) || e != api.ErrNil {
				t.Error(name, b, e)
			}
		}
		if x, e := h.Ride(); x != (house.Ride{}) || e != api.ErrNil {
			t.Error(name, x, e)
		}
	}
	if !same(lookWhole(t, opened), before) {
		t.Error("a copy has changed the house")
	}
	// A house that is overwritten with the zero value is none any more.
	*opened = house.House{}
	if _, e := opened.Rows(); e != api.ErrNil {
		t.Error(e)
	}
}

// TestNilAndEmpty has setups whose lists are nil, or empty.
func TestNilAndEmpty(t *testing.T) {
	least := house.Setup{
		Plant:  api.Plant{Buses: 1},
		State:  api.State{Earthed: []bool{false}, BadBus: []bool{false}},
		Hall:   heat.Hall{Rooms: []heat.Room{{Store: 1}}},
		Class:  heat.Class{Low: heat.Case{Load: []int{0}}, High: heat.Case{Load: []int{0}}},
		Heat:   []int{0},
		Tariff: meter.Tariff{Price: make([]int, 24)},
	}
	empty := with(least, func(c *house.Setup) {
		c.Plant.Sources, c.Plant.Links, c.Plant.Racks = []api.Source{}, []api.Link{}, []api.Rack{}
		c.State.Closed, c.State.Locked, c.State.BadLink, c.State.On, c.State.BadSource = []bool{}, []bool{}, []bool{}, []bool{}, []bool{}
		c.Transfers = []paths.Transfer{}
		c.Task = steps.Task{Fed: []int{}, Crew: []int{}, Allowed: []api.Step{}, Goal: []api.Step{}}
		c.Bank = bank.Bank{Batteries: []bank.Battery{}, Generators: []bank.Generator{}}
		c.Hall.Walls, c.Hall.Branches, c.Hall.Coolers = []heat.Wall{}, []heat.Branch{}, []heat.Cooler{}
		c.Tariff.Tiers, c.Disks = []meter.Tier{}, []int{}
	})
	for _, c := range []house.Setup{least, empty} {
		for _, l := range [][]house.Order{nil, {}} {
			h, events, e := house.Run(c, l)
			if len(events) != 0 || e != api.OK {
				t.Fatal(events, e)
			}
			act(t, h, fault(bus(0)), nil, nil)
			act(t, h, hour, nil, nil)
			refused(t, h, destroy(0, 1), api.ErrRack)
			refused(t, h, retire(0), api.ErrRack)
			if x, e := h.Ride(); x != (house.Ride{Seconds: 4000, Power: 4000, Heat: 4000}) || e != api.OK {
				t.Error(x, e)
			}
			rows(t, h, house.Row{})
			if b, e := h.Bill(0); b != (meter.Bill{}) || e != api.ErrRack {
				t.Error(b, e)
			}
		}
		found(t, "least", c, house.Claims{Two: true, Selective: true, Arc: 1, Ride: 4000})
		stranded(t, "least", c, house.Strand{})
	}
}

// odd has numbers that are often wrong.
var odd = []int{math.MinInt, math.MinInt + 1, -1 << 32, -2, -1, 0, 1, 2, 3, 5, 8, 9, 24, 25, 60, 168, 169, 1000, 1001, 100000, 100001, 1 << 32, math.MaxInt - 1, math.MaxInt}

// numbers calls a function for each number and each bool that a value reaches.
func numbers(v reflect.Value, f func(v reflect.Value)) {
	switch v.Kind() {
	case reflect.Slice:
		for i := range v.Len() {
			numbers(v.Index(i), f)
		}
	case reflect.Struct, reflect.Array:
		for i := range parts(v) {
			numbers(part(v, i), f)
		}
	case reflect.Int, reflect.Bool:
		f(v)
	}
}

// TestOddArguments opens setups in which some numbers are odd, and gives odd orders: nothing may panic, and with an error all else is zero.
func TestOddArguments(t *testing.T) {
	r := rand.New(rand.NewPCG(14, 9))
	right, errors := 0, map[api.Errno]int{}
	for range 4000 {
		c := copied(randomSetup(r))
		count := 0
		numbers(reflect.ValueOf(&c).Elem(), func(reflect.Value) { count++ })
		for range from(r, 0, 2) {
			at := r.IntN(count)
			numbers(reflect.ValueOf(&c).Elem(), func(v reflect.Value) {
				if at--; at == -1 && v.Kind() == reflect.Bool {
					v.SetBool(!v.Bool())
				} else if at == -1 {
					v.SetInt(int64(odd[r.IntN(len(odd))]))
				}
			})
		}
		claims := house.Claims{Two: true, Selective: true, Arc: odd[r.IntN(len(odd))], Ride: odd[r.IntN(len(odd))]}
		e := house.Check(c)
		errors[e]++
		if e != api.OK {
			wrong(t, "odd", c, e)
			continue
		}
		right++
		if _, e := house.Commission(c, claims); e != api.OK {
			t.Fatal(e)
		}
		if _, e := house.Stranded(c); e != api.OK {
			t.Fatal(e)
		}
		h := open(t, c)
		for range 10 {
			o := randomOrder(r, c)
			numbers(reflect.ValueOf(&o).Elem(), func(v reflect.Value) {
				if often(r, 20) {
					v.SetInt(int64(odd[r.IntN(len(odd))]))
				}
			})
			h.Act(o)
			h.Bill(odd[r.IntN(len(odd))])
		}
		lookWhole(t, h)
	}
	if right < 500 || len(errors) < 12 {
		t.Error("met:", right, errors)
	}
}

// spoilSeen changes all that a house has shown, and what may stand behind it.
func spoilSeen(x seen) {
	for _, l := range []any{x.state, x.rows, x.chain, x.disks, x.retired} {
		spoil(l)
	}
}

// TestOwnMemory changes setups after Open and Run, and results: the houses must go on as if nothing had been changed.
func TestOwnMemory(t *testing.T) {
	r := rand.New(rand.NewPCG(14, 10))
	for range 200 {
		c := randomSetup(r)
		l := randomOrders(r, c, 30)
		n := r.IntN(len(l) + 1)
		m := newModel(c)
		given, orders := copied(c), slices.Clone(l[:n])
		h := open(t, given)
		run, events, e := house.Run(given, orders)
		if e != api.OK {
			t.Fatal(e)
		}
		spoil(given)
		spoil(orders)
		spoil(events)
		for i, o := range l {
			want := m.act(o)
			for _, x := range []*house.House{h, run} {
				if x == run && i < n {
					continue
				}
				event := x.Act(o)
				if !same(event, want) {
					t.Fatalf("%+v: %+v: %+v, not %+v", c, o, event, want)
				}
				spoil(event)
				spoilSeen(look(t, x))
			}
		}
		if want := m.seenWhole(); !same(lookWhole(t, h), want) || !same(lookWhole(t, run), want) {
			t.Fatalf("%+v: %+v %+v", c, lookWhole(t, h), lookWhole(t, run))
		}
	}
}

// TestArgumentsStay checks that no argument is changed, and that nothing is written behind its lists.
func TestArgumentsStay(t *testing.T) {
	c := site()
	c.Task.Fed = []int{0}
	// Each list of the setup stands at the beginning of a longer one.
	longer := copied(c)
	grow(reflect.ValueOf(&longer).Elem())
	orders := append(randomOrders(rand.New(rand.NewPCG(14, 11)), c, 60), hours(40)...)
	given := slices.Clone(orders)
	all := func() string {
		var l []any
		lists(reflect.ValueOf(longer), func(v reflect.Value) { l = append(l, v.Slice(0, v.Cap()).Interface()) })
		return text(l)
	}
	before := all()
	if _, _, e := house.Run(longer, given[:60]); e != api.OK {
		t.Fatal(e)
	}
	for range 2 {
		acted(t, longer, hour, fault(source(1)), destroy(2, 5), retire(2), mend(source(1)), hour)
		if _, e := house.Commission(longer, house.Claims{Two: true, Selective: true, Arc: 1, Ride: 4000}); e != api.OK {
			t.Fatal(e)
		}
		if _, e := house.Stranded(longer); e != api.OK {
			t.Fatal(e)
		}
	}
	if all() != before || !slices.Equal(given, orders) {
		t.Error("changed:", longer, given)
	}
}

// TestListsOfTheirOwn checks that two results, and the lists of one, share no memory.
func TestListsOfTheirOwn(t *testing.T) {
	h := acted(t, site(), hour, fault(bus(4)), hour)
	results := func() []any {
		s, _ := h.State()
		a, _ := h.Rows()
		b, _ := h.Chain()
		c, _ := h.Disks()
		d, _ := h.Retired()
		e, _ := house.Commission(site(), house.Claims{Selective: true})
		f, _ := house.Stranded(site())
		return []any{s.Closed, s.Locked, s.BadLink, s.On, s.BadSource, s.Earthed, s.BadBus, a, b, c, d, e, f.Tight}
	}
	first := append(results(), results()...)
	before := make([]string, len(first))
	for i, x := range first {
		before[i] = text(x)
	}
	for i, x := range first {
		if text(x) != before[i] || text(x) == text([]int{}) {
			t.Error(i, x)
		}
		spoil(x)
	}
	if !same(results(), results()) || text(results()[0]) != before[0] {
		t.Error("a result has changed the house")
	}
}

// TestApart lets two houses of one setup go different ways.
func TestApart(t *testing.T) {
	c := site()
	a, b := open(t, c), open(t, c)
	x, y := newModel(c), newModel(c)
	for _, o := range []house.Order{hour, fault(bus(2)), hour, retire(3), destroy(0, 3), hour} {
		a.Act(o)
		x.act(o)
	}
	for _, o := range []house.Order{fault(source(1)), hour, destroy(2, 5), retire(2)} {
		b.Act(o)
		y.act(o)
	}
	if !same(lookWhole(t, a), x.seenWhole()) || !same(lookWhole(t, b), y.seenWhole()) {
		t.Errorf("%+v %+v", look(t, a), look(t, b))
	}
}
