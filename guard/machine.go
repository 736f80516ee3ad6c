package guard

import (
	"iter"
	"math"
	"slices"

	"switchgear/api"
	"switchgear/flow"
)

// machine clears a fault, round by round. Its Clearing is what has happened so far: Millis is the present time, State the present state.
type machine struct {
	Clearing
	plant api.Plant
	bus   int
	amps  []int       // the current of each link
	since map[int]int // when the current of a link became what it is, if not at the beginning
}

// clearing returns how a fault is cleared at a bus of a plant in a valid state.
func clearing(p api.Plant, s api.State, bus int) Clearing {
	m := &machine{
		Clearing: Clearing{State: twin(s)},
		plant:    p,
		bus:      bus,
		amps:     make([]int, len(p.Links)),
		since:    map[int]int{},
	}
	m.run()
	return m.Clearing
}

// run plays rounds until no breaker opens any more. As none opens twice, there are at most as many rounds as breakers, and one.
func (m *machine) run() {
	opened := m.round
again:
	if opened() {
		goto again
	}
}

// round lets the breakers open that are due next, and reports whether there were any.
func (m *machine) round() bool {
	// The plant, its state and the bus are valid in all rounds, so that flow has no error.
	shorts, _ := flow.Shorts(m.plant, m.State, m.bus)
	amps, _ := flow.Through(m.plant, shorts)
	m.measure(amps)
	m.Cleared = len(shorts) == 0
	next, due := m.next()
	if m.Cleared || !due {
		return false
	}
	m.Energy += heat(shorts) * (next - m.Millis)
	m.Millis = next
	m.open()
	return true
}

// measure takes the currents that flow from the present time on.
func (m *machine) measure(amps []int) {
	for link, now := range amps {
		if now != m.amps[link] {
			m.since[link] = m.Millis
		}
	}
	m.amps = amps
}

// next returns the time at which breakers open next; false if none is armed.
func (m *machine) next() (int, bool) {
	least, found := math.MaxInt, false
	for _, due := range m.armed() {
		least, found = min(least, due), true
	}
	return max(least, m.Millis), found
}

// open opens all breakers that are due at the present time.
func (m *machine) open() {
	for link, due := range m.armed() {
		if due <= m.Millis {
			m.State.Closed[link] = false
			m.Events = append(m.Events, Event{Millis: m.Millis, Link: link})
		}
	}
}

// armed yields the breakers that are armed, by increasing index, each with the time at which it is due.
func (m *machine) armed() iter.Seq2[int, int] {
	return func(yield func(int, int) bool) {
		for i, x := range m.plant.Links {
			if x.Kind != api.Breaker || !m.State.Closed[i] || m.State.BadLink[i] {
				continue
			}
			if delay, ok := Delay(x, m.amps[i]); ok && !yield(i, m.since[i]+delay) {
				return
			}
		}
	}
}

// heat returns the energy of the arc in a millisecond.
func heat(shorts []flow.Short) int {
	amps := 0
	for _, x := range shorts {
		amps += x.Amps
	}
	return (amps*amps + 999) / 1000
}

// twin returns an equal state that shares no memory with s.
func twin(s api.State) api.State {
	for _, l := range []*[]bool{&s.Closed, &s.Locked, &s.BadLink, &s.On, &s.BadSource, &s.Earthed, &s.BadBus} {
		*l = slices.Clone(*l)
	}
	return s
}
