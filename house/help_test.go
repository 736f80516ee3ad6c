package house_test

import (
	"encoding/json"
	"fmt"
	"reflect"
	"slices"
	"testing"

	"switchgear/api"
	"switchgear/bank"
	"switchgear/flow"
	"switchgear/heat"
	"switchgear/house"
	"switchgear/meter"
	"switchgear/paths"
	"switchgear/plant"
	"switchgear/steps"
)

// chapter is the plant of the chapter's examples; its last breaker is open in them.
const chapter = `plant 4
source 0 grid 500 0 20
source 1 grid 500 0 20
link 0 2 breaker 400 10
link 1 3 breaker 400 10
link 2 3 breaker 400 10
rack 2 3 100 2
`

// yard has racks to which two, one and no paths are promised, and a generator that is off.
const yard = `plant 6
source 0 grid 500 0 20
source 1 grid 500 0 20
source 5 generator 300 0 40
link 0 2 breaker 400 10 1000:100 10000:40
link 1 3 breaker 400 10 1000:100
link 2 3 breaker 400 10
link 3 4 cable 200 10
link 5 4 switch 300 10
rack 2 3 100 2
rack 4 -1 50 1
rack 4 -1 30 0
rack 2 -1 70 0
`

// example returns the setup of the chapter's examples: the bank of layer 6 with one fail, 20 cents in all hours, and a hall that is too hot after 51 seconds.
func example() house.Setup {
	return setup(chapter, []int{2}, 3)
}

// site returns a setup of the yard; each of its middle buses is fed through the other one if it loses its grid.
func site() house.Setup {
	c := setup(yard, []int{2, 4}, 10, 20, 5, 0)
	c.State.On[2] = false
	c.Transfers = []paths.Transfer{{Watch: 3, Open: 1, Close: 2}, {Watch: 2, Open: 0, Close: 2}}
	return c
}

// setup returns a setup for the plant of a text: all sources are on, and all links closed but for some.
func setup(text string, open []int, disks ...int) house.Setup {
	p, _, e := plant.Parse(text)
	if e != api.OK {
		panic(text)
	}
	s := start(p)
	for _, i := range open {
		s.Closed[i] = false
	}
	return house.Setup{
		Plant: p,
		State: s,
		Bank: bank.Bank{
			Batteries:  []bank.Battery{{Energy: 1000, Full: 1000, Power: 100, Charge: 10}},
			Generators: []bank.Generator{{Power: 100, Ramp: 20, Delay: 5, Pause: 2, Tries: 2}},
		},
		Fails:  1,
		Hall:   heat.Hall{Rooms: []heat.Room{{Store: 1000, Limit: 22500}}},
		Class:  heat.Class{Low: heat.Case{Load: []int{0}}, High: heat.Case{Load: []int{10000}, Out: 30000}},
		Heat:   []int{22000},
		Tariff: meter.Tariff{Price: slices.Repeat([]int{20}, 24)},
		Key:    7,
		Disks:  disks,
	}
}

// start returns the state in which all sources are on and all links closed.
func start(p api.Plant) api.State {
	s, _ := plant.Initial(p)
	for _, l := range [][]bool{s.On, s.Closed} {
		for i := range l {
			l[i] = true
		}
	}
	return s
}

// with returns a setup with a change; its memory is its own.
func with(c house.Setup, change func(c *house.Setup)) house.Setup {
	c = copied(c)
	change(&c)
	return c
}

// copied returns an equal value that shares no memory with x.
func copied[T any](x T) T {
	var y T
	text, e := json.Marshal(x)
	if e == nil {
		e = json.Unmarshal(text, &y)
	}
	if e != nil {
		panic(e)
	}
	return y
}

// same reports whether two values are equal; a nil list and an empty one are.
func same(a, b any) bool { return text(a) == text(b) }

// text returns a value as a text.
func text(x any) string { return fmt.Sprintf("%+v", x) }

// lists calls a function for each list that a value reaches.
func lists(v reflect.Value, f func(v reflect.Value)) {
	switch v.Kind() {
	case reflect.Slice:
		f(v)
		for i := range v.Len() {
			lists(v.Index(i), f)
		}
	case reflect.Struct:
		for i := range v.NumField() {
			lists(v.Field(i), f)
		}
	}
}

// grow puts each list that a value reaches at the beginning of a longer one.
func grow(v reflect.Value) {
	lists(v, func(l reflect.Value) {
		longer := reflect.MakeSlice(l.Type(), l.Len()+3, l.Len()+3)
		reflect.Copy(longer, l)
		l.Set(longer.Slice(0, l.Len()))
	})
}

// spoil changes all that a value reaches through its lists, up to their capacities.
func spoil(x any) { spoilValue(reflect.ValueOf(x)) }

func spoilValue(v reflect.Value) {
	switch v.Kind() {
	case reflect.Slice:
		all := v.Slice(0, v.Cap())
		for i := range all.Len() {
			spoilValue(all.Index(i))
		}
	case reflect.Struct, reflect.Array:
		for i := range parts(v) {
			spoilValue(part(v, i))
		}
	case reflect.Bool:
		if v.CanSet() {
			v.SetBool(!v.Bool())
		}
	case reflect.Int:
		if v.CanSet() {
			v.SetInt(^v.Int())
		}
	case reflect.Uint64:
		if v.CanSet() {
			v.SetUint(^v.Uint())
		}
	}
}

// parts and part return the fields of a struct, or the elements of an array.
func parts(v reflect.Value) int {
	if v.Kind() == reflect.Array {
		return v.Len()
	}
	return v.NumField()
}

func part(v reflect.Value, i int) reflect.Value {
	if v.Kind() == reflect.Array {
		return v.Index(i)
	}
	return v.Field(i)
}

// bus, source and link return parts.
func bus(i int) api.Part    { return api.Part{Kind: api.BusPart, Index: i} }
func source(i int) api.Part { return api.Part{Kind: api.SourcePart, Index: i} }
func link(i int) api.Part   { return api.Part{Kind: api.LinkPart, Index: i} }

// fault, mend, do, destroy, retire and hour are orders.
func fault(x api.Part) house.Order { return house.Order{Kind: house.Fault, Part: x} }
func mend(x api.Part) house.Order  { return house.Order{Kind: house.Mend, Part: x} }
func do(deed api.Deed, index int) house.Order {
	return house.Order{Kind: house.Switch, Step: api.Step{Deed: deed, Index: index}}
}
func destroy(rack, count int) house.Order {
	return house.Order{Kind: house.Destroy, Rack: rack, Count: count}
}
func retire(rack int) house.Order { return house.Order{Kind: house.Retire, Rack: rack} }

var hour = house.Order{Kind: house.Hour}

// hours returns so many orders that let an hour pass.
func hours(n int) []house.Order { return slices.Repeat([]house.Order{hour}, n) }

// open opens a house.
func open(t *testing.T, c house.Setup) *house.House {
	t.Helper()
	h, e := house.Open(c)
	if h == nil || e != api.OK {
		t.Fatalf("Open: %+v: %d", c, e)
	}
	return h
}

// acted opens a house and lets orders have their effect; none may have an error.
func acted(t *testing.T, c house.Setup, l ...house.Order) *house.House {
	t.Helper()
	h := open(t, c)
	for i, o := range l {
		if x := h.Act(o); x.Error != api.OK {
			t.Fatalf("%d: %+v: %d", i, o, x.Error)
		}
	}
	return h
}

// act lets an order have its effect, and compares the racks that it turns dark and lit.
func act(t *testing.T, h *house.House, o house.Order, dark, lit []int) {
	t.Helper()
	if x := h.Act(o); !same(x, house.Event{Dark: dark, Lit: lit}) {
		t.Errorf("%+v: %+v, not %v %v", o, x, dark, lit)
	}
}

// refused checks that an order has an error, and changes nothing.
func refused(t *testing.T, h *house.House, o house.Order, want api.Errno) {
	t.Helper()
	before := look(t, h)
	if x := h.Act(o); !same(x, house.Event{Error: want}) {
		t.Errorf("%+v: %+v, not %d", o, x, want)
	}
	if after := look(t, h); !same(after, before) {
		t.Errorf("%+v: changed to %+v", o, after)
	}
}

// seen is all that a house shows of itself.
type seen struct {
	state   api.State
	rows    []house.Row
	chain   []meter.Link
	disks   []int
	retired []bool
	bills   []meter.Bill
	ride    house.Ride
	noRide  api.Errno
}

// look returns all that a house shows, but for its Ride, which may take long.
func look(t *testing.T, h *house.House) seen {
	t.Helper()
	var x seen
	var e [5]api.Errno
	x.state, e[0] = h.State()
	x.rows, e[1] = h.Rows()
	x.chain, e[2] = h.Chain()
	x.disks, e[3] = h.Disks()
	x.retired, e[4] = h.Retired()
	if e != [5]api.Errno{} {
		t.Fatal("errors:", e)
	}
	for rack := range x.disks {
		b, e := h.Bill(rack)
		if e != api.OK {
			t.Fatal("Bill:", rack, e)
		}
		x.bills = append(x.bills, b)
	}
	return x
}

// lookWhole returns all that a house shows.
func lookWhole(t *testing.T, h *house.House) seen {
	t.Helper()
	x := look(t, h)
	x.ride, x.noRide = h.Ride()
	return x
}

// past is what counts of an hour that has passed.
type past struct {
	state   api.State
	retired []bool
}

// model is a house by the chapter's words: it keeps what counted in each hour, and works everything out when it is asked.
type model struct {
	house.Setup
	state   api.State
	hours   []past
	disks   []int
	retired []bool
}

func newModel(c house.Setup) *model {
	c = copied(c)
	s, _, _ := paths.Settle(c.Plant, c.State, c.Transfers)
	return &model{Setup: c, state: s, disks: slices.Clone(c.Disks), retired: make([]bool, len(c.Disks))}
}

// fed reports whether a rack is fed in a state.
func (m *model) fed(s api.State, rack int) bool {
	l, _ := plant.Fed(m.Plant, s)
	return l[rack] != [2]bool{}
}

// reach settles a state and makes it the present one.
func (m *model) reach(s api.State, e api.Errno) api.Errno {
	if e == api.OK {
		m.state, _, _ = paths.Settle(m.Plant, s, m.Transfers)
	}
	return e
}

// obey lets an order have its effect.
func (m *model) obey(o house.Order) api.Errno {
	isRack := o.Rack >= 0 && o.Rack < len(m.disks)
	switch o.Kind {
	case house.Fault:
		return m.reach(plant.Break(m.Plant, m.state, o.Part))
	case house.Mend:
		return m.reach(plant.Mend(m.Plant, m.state, o.Part))
	case house.Switch:
		s, e := steps.Do(m.Plant, m.state, o.Step)
		if e == api.OK {
			e = steps.Legal(m.Plant, s, steps.Task{Fed: m.Task.Fed, Crew: m.Task.Crew})
		}
		return m.reach(s, e)
	case house.Hour:
		if len(m.hours) == 168 {
			return api.ErrMany
		}
		m.hours = append(m.hours, past{m.state, slices.Clone(m.retired)})
	case house.Destroy:
		if !isRack {
			return api.ErrRack
		}
		if o.Count < 1 || o.Count > m.disks[o.Rack] {
			return api.ErrRange
		}
		m.disks[o.Rack] -= o.Count
	case house.Retire:
		if !isRack {
			return api.ErrRack
		}
		if m.retired[o.Rack] {
			return api.ErrDone
		}
		if m.disks[o.Rack] != 0 || m.Plant.Racks[o.Rack].Paths != 0 {
			return api.ErrState
		}
		m.retired[o.Rack] = true
	default:
		return api.ErrCommand
	}
	return api.OK
}

// act returns the event of an order.
func (m *model) act(o house.Order) house.Event {
	before := m.state
	x := house.Event{Error: m.obey(o)}
	for rack := range m.disks {
		was, is := m.fed(before, rack), m.fed(m.state, rack)
		if !m.retired[rack] && was && !is {
			x.Dark = append(x.Dark, rack)
		}
		if !m.retired[rack] && !was && is {
			x.Lit = append(x.Lit, rack)
		}
	}
	return x
}

// row returns the row of an hour.
func (m *model) row(x past) house.Row {
	var row house.Row
	p := m.Plant
	p.Racks = nil
	for rack, y := range m.Plant.Racks {
		if x.retired[rack] {
			continue
		}
		p.Racks = append(p.Racks, y)
		row.Demand += y.Power
		if m.fed(x.state, rack) {
			row.Metered += y.Power
		} else {
			row.Dark++
		}
	}
	serving, _, _ := flow.Serve(p, x.state)
	row.Served = flow.Amount(serving)
	return row
}

// readings returns the readings of all hours.
func (m *model) readings() []meter.Reading {
	var list []meter.Reading
	for i, x := range m.hours {
		for rack, y := range m.Plant.Racks {
			if x.retired[rack] {
				continue
			}
			r := meter.Reading{Meter: rack, Hour: i}
			if m.fed(x.state, rack) {
				r.Value = y.Power
			}
			list = append(list, r)
		}
	}
	return list
}

// bill returns the bill of a rack.
func (m *model) bill(rack int) meter.Bill {
	var u meter.Use
	y := m.Plant.Racks[rack]
	for _, x := range m.hours {
		value := 0
		if m.fed(x.state, rack) && !x.retired[rack] {
			value = y.Power
		}
		u.Values = append(u.Values, value)
		if !m.fed(x.state, rack) && !x.retired[rack] && y.Paths > 0 {
			u.Out += 60
		}
	}
	b, _ := meter.Make(m.Tariff, u)
	return b
}

// ride returns how long it goes on without the grids.
func (m *model) ride() (house.Ride, api.Errno) {
	power := 0
	for rack, y := range m.Plant.Racks {
		if !m.retired[rack] && m.fed(m.state, rack) {
			power += y.Power
		}
	}
	n, e := bank.Hold(m.Bank, power, m.Fails)
	if e != api.OK {
		return house.Ride{}, e
	}
	k, _, _ := heat.Ride(m.Hall, m.Heat, m.Class, 4000)
	x := house.Ride{Power: n, Heat: k - 1}
	if k == 0 {
		x.Heat = 0
	}
	x.Seconds = min(x.Power, x.Heat)
	return x, api.OK
}

// seen returns what a house like the model must show, but for its Ride.
func (m *model) seen() seen {
	x := seen{state: m.state, disks: m.disks, retired: m.retired}
	for _, y := range m.hours {
		x.rows = append(x.rows, m.row(y))
	}
	x.chain, _ = meter.Sign(m.Key, m.readings())
	for rack := range m.disks {
		x.bills = append(x.bills, m.bill(rack))
	}
	return x
}

// seenWhole returns what a house like the model must show.
func (m *model) seenWhole() seen {
	x := m.seen()
	x.ride, x.noRide = m.ride()
	return x
}
