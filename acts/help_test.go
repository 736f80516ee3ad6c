package acts_test

import (
	"math/rand/v2"
	"slices"
	"testing"

	"switchgear/acts"
	"switchgear/api"
	"switchgear/plant"
	"switchgear/steps"
)

// chapter is the plant of layer 4's examples, with a rack at its end.
const chapter = `plant 3
source 0 grid 500 0 20
link 0 1 breaker 400 10
link 1 2 switch 400 10
rack 2 -1 100 1
`

// two has two ways from a grid to a rack, and a rack at each bus between.
const two = `plant 4
source 0 grid 500 0 20
link 0 1 breaker 400 10
link 0 2 breaker 400 10
link 1 3 breaker 400 10
link 2 3 breaker 400 10
rack 3 -1 100 1
rack 1 -1 100 1
rack 1 2 100 2
`

// script is what a procedure is begun with.
type script struct {
	p api.Plant
	s api.State
	t steps.Task
	l []acts.Item
}

// scripted returns a script for the plant of a text, with all sources on and all links closed.
func scripted(text string, l ...acts.Item) script {
	p, _, e := plant.Parse(text)
	if e != api.OK {
		panic(text)
	}
	return script{p: p, s: start(p), l: l}
}

// example returns the script of the chapter's examples.
func example() script {
	return scripted(chapter, waiting(api.Open, 0), item(api.Open, 1))
}

// start returns the state in which all sources are on and all links closed.
func start(p api.Plant) api.State {
	s, _ := plant.Initial(p)
	for _, l := range [][]bool{s.On, s.Closed} {
		for i := range l {
			l[i] = true
		}
	}
	return s
}

// with returns a script with a change; its memory is its own.
func (x script) with(change func(x *script)) script {
	x = x.copied()
	change(&x)
	return x
}

// copied returns an equal script that shares no memory with x.
func (x script) copied() script {
	x.p.Sources, x.p.Links, x.p.Racks = slices.Clone(x.p.Sources), slices.Clone(x.p.Links), slices.Clone(x.p.Racks)
	for i := range x.p.Links {
		x.p.Links[i].Trip = slices.Clone(x.p.Links[i].Trip)
	}
	x.s = copiedState(x.s)
	x.t.Fed, x.t.Crew = slices.Clone(x.t.Fed), slices.Clone(x.t.Crew)
	x.t.Allowed, x.t.Goal = slices.Clone(x.t.Allowed), slices.Clone(x.t.Goal)
	x.l = slices.Clone(x.l)
	return x
}

// lists returns the lists of a state, so that each can be changed in place.
func lists(s *api.State) []*[]bool {
	return []*[]bool{&s.Closed, &s.Locked, &s.BadLink, &s.On, &s.BadSource, &s.Earthed, &s.BadBus}
}

func copiedState(s api.State) api.State {
	for _, l := range lists(&s) {
		*l = slices.Clone(*l)
	}
	return s
}

// sameState reports whether two states are equal.
func sameState(a, b api.State) bool {
	x, y := lists(&a), lists(&b)
	for i := range x {
		if !slices.Equal(*x[i], *y[i]) {
			return false
		}
	}
	return true
}

// item and waiting return items: the second one must be acknowledged.
func item(deed api.Deed, index int) acts.Item { return acts.Item{Step: step(deed, index)} }
func waiting(deed api.Deed, index int) acts.Item {
	return acts.Item{Step: step(deed, index), Ack: true}
}

func step(deed api.Deed, index int) api.Step { return api.Step{Deed: deed, Index: index} }

// bus, source and link return parts.
func bus(i int) api.Part    { return api.Part{Kind: api.BusPart, Index: i} }
func source(i int) api.Part { return api.Part{Kind: api.SourcePart, Index: i} }
func link(i int) api.Part   { return api.Part{Kind: api.LinkPart, Index: i} }

// did, acked, undid, failed and mended return events.
func did(deed api.Deed, index int) acts.Event {
	return acts.Event{Kind: acts.Did, Step: step(deed, index)}
}
func undid(deed api.Deed, index int) acts.Event {
	return acts.Event{Kind: acts.Undid, Step: step(deed, index)}
}
func acked(who int) acts.Event     { return acts.Event{Kind: acts.Acked, Who: who} }
func failed(x api.Part) acts.Event { return acts.Event{Kind: acts.Failed, Part: x} }
func mended(x api.Part) acts.Event { return acts.Event{Kind: acts.Mended, Part: x} }

// runner is a run of the package, or a model of one.
type runner interface {
	Next() api.Errno
	Ack(who int) api.Errno
	Undo() api.Errno
	Fail(x api.Part) api.Errno
	Mend(x api.Part) api.Errno
}

// act calls the function that an event belongs to; its step does not matter.
func act(r runner, x acts.Event) api.Errno {
	switch x.Kind {
	case acts.Did:
		return r.Next()
	case acts.Acked:
		return r.Ack(x.Who)
	case acts.Undid:
		return r.Undo()
	case acts.Failed:
		return r.Fail(x.Part)
	}
	return r.Mend(x.Part)
}

// next and undo stand for calls of Next and Undo.
var (
	next = acts.Event{Kind: acts.Did}
	undo = acts.Event{Kind: acts.Undid}
)

// model is a run by the chapter's words; it keeps all its states.
type model struct {
	script
	states      []api.State // the one at the beginning, and the one after each event
	done        int
	waits, back bool
	log         []acts.Event
}

func newModel(x script) *model { return &model{script: x.copied(), states: []api.State{x.s}} }

func (m *model) now() api.State { return m.states[len(m.states)-1] }

func (m *model) write(s api.State, x acts.Event) api.Errno {
	m.states = append(m.states, s)
	m.log = append(m.log, x)
	return api.OK
}

func (m *model) full() bool { return len(m.log) == 1000 }

// stepped returns the state after a step, if it may be done.
func (m *model) stepped(x api.Step) (api.State, api.Errno) {
	s, e := steps.Do(m.p, m.now(), x)
	if e == api.OK {
		e = steps.Legal(m.p, s, m.t)
	}
	return s, e
}

func (m *model) Next() api.Errno {
	switch {
	case m.full():
		return api.ErrMany
	case m.back:
		return api.ErrState
	case m.waits:
		return api.ErrAck
	case m.done == len(m.l):
		return api.ErrNone
	}
	x := m.l[m.done]
	s, e := m.stepped(x.Step)
	if e != api.OK {
		return e
	}
	m.done, m.waits = m.done+1, x.Ack
	return m.write(s, acts.Event{Kind: acts.Did, Step: x.Step})
}

func (m *model) Ack(who int) api.Errno {
	switch {
	case m.full():
		return api.ErrMany
	case !m.waits:
		return api.ErrState
	case who < 1 || who > 1000:
		return api.ErrArg
	}
	m.waits = false
	return m.write(m.now(), acts.Event{Kind: acts.Acked, Who: who})
}

func (m *model) Undo() api.Errno {
	switch {
	case m.full():
		return api.ErrMany
	case m.done == 0:
		return api.ErrNone
	}
	x := steps.Inverse(m.l[m.done-1].Step)
	s, e := m.stepped(x)
	if e != api.OK {
		return e
	}
	m.done, m.back, m.waits = m.done-1, true, false
	return m.write(s, acts.Event{Kind: acts.Undid, Step: x})
}

func (m *model) Fail(x api.Part) api.Errno {
	if m.full() {
		return api.ErrMany
	}
	s, e := plant.Break(m.p, m.now(), x)
	if e != api.OK {
		return e
	}
	return m.write(s, acts.Event{Kind: acts.Failed, Part: x})
}

func (m *model) Mend(x api.Part) api.Errno {
	if m.full() {
		return api.ErrMany
	}
	s, e := plant.Mend(m.p, m.now(), x)
	if e != api.OK {
		return e
	}
	return m.write(s, acts.Event{Kind: acts.Mended, Part: x})
}

// isFed reports whether a rack is fed.
func (m *model) isFed(s api.State, rack int) bool {
	l, _ := plant.Fed(m.p, s)
	return l[rack] != [2]bool{}
}

func (m *model) causes() []acts.Cause {
	var list []acts.Cause
	for rack := range m.p.Racks {
		if !m.isFed(m.states[0], rack) || m.isFed(m.now(), rack) {
			continue
		}
		last := -1
		for event := range m.log {
			if m.isFed(m.states[event], rack) {
				last = event
			}
		}
		list = append(list, acts.Cause{Rack: rack, Event: last})
	}
	return list
}

// seen is all that a run shows of itself.
type seen struct {
	status acts.Status
	state  api.State
	legal  api.Errno
	log    []acts.Event
	causes []acts.Cause
}

func (x seen) same(y seen) bool {
	return x.status == y.status && sameState(x.state, y.state) && x.legal == y.legal && slices.Equal(x.log, y.log) && slices.Equal(x.causes, y.causes)
}

// look returns all that a run shows.
func look(t *testing.T, r *acts.Run) seen {
	t.Helper()
	var x seen
	var e [4]api.Errno
	x.status, e[0] = r.Status()
	x.state, e[1] = r.State()
	x.log, e[2] = r.Log()
	x.causes, e[3] = r.Causes()
	x.legal = r.Legal()
	if e != [4]api.Errno{} {
		t.Fatal("errors:", e)
	}
	return x
}

// seen returns what a run like the model must show.
func (m *model) seen() seen {
	return seen{
		status: acts.Status{Done: m.done, Left: len(m.l) - m.done, Waiting: m.waits, Back: m.back},
		state:  m.now(),
		legal:  steps.Legal(m.p, m.now(), m.t),
		log:    m.log,
		causes: m.causes(),
	}
}

// begun begins a run, and a model of it.
func begun(t *testing.T, x script) (*acts.Run, *model) {
	t.Helper()
	r, n, e := acts.Begin(x.p, x.s, x.t, x.l)
	if r == nil || n != len(x.l) || e != api.OK {
		t.Fatalf("Begin: %+v: %d %d", x, n, e)
	}
	return r, newModel(x)
}

// all lets events have their effect on a run that is just begun; each must have it.
func all(t *testing.T, x script, events ...acts.Event) *acts.Run {
	t.Helper()
	r, _ := begun(t, x)
	for i, event := range events {
		if e := act(r, event); e != api.OK {
			t.Fatal(i, event, e)
		}
	}
	return r
}

// refused checks that an event has an error, and changes nothing.
func refused(t *testing.T, name string, r *acts.Run, event acts.Event, want api.Errno) {
	t.Helper()
	before := look(t, r)
	if e := act(r, event); e != want {
		t.Error(name, event, e, "not", want)
	}
	if after := look(t, r); !after.same(before) {
		t.Errorf("%s: changed to %+v", name, after)
	}
}

// from returns a number from low to high.
func from(r *rand.Rand, low, high int) int { return low + r.IntN(high-low+1) }

// randomPlant returns a valid plant with few buses, so that steps often matter to each other.
func randomPlant(r *rand.Rand) api.Plant {
	p := api.Plant{Buses: from(r, 2, 6)}
	for range from(r, 1, 3) {
		p.Sources = append(p.Sources, api.Source{Bus: r.IntN(p.Buses), Kind: api.Generator, Power: 1, Sync: []int{0, 1, 1, 1}[r.IntN(4)], Ohm: 10})
	}
	for range from(r, 1, 2*p.Buses) {
		a := r.IntN(p.Buses)
		kind := []api.LinkKind{api.Cable, api.Switch, api.Breaker, api.Breaker, api.Breaker}[r.IntN(5)]
		p.Links = append(p.Links, api.Link{A: a, B: (a + from(r, 1, p.Buses-1)) % p.Buses, Kind: kind, Most: 1, Ohm: 10})
	}
	for range from(r, 1, 4) {
		x := api.Rack{Feeds: [2]int{r.IntN(p.Buses), -1}, Power: 1}
		if r.IntN(2) == 0 {
			x.Feeds[1] = (x.Feeds[0] + from(r, 1, p.Buses-1)) % p.Buses
		}
		p.Racks = append(p.Racks, x)
	}
	return p
}

// randomState returns a valid state in which most sources are on and most links closed, and few parts have failed.
func randomState(r *rand.Rand, p api.Plant) api.State {
	s := start(p)
	often := func(percent int) bool { return r.IntN(100) < percent }
	for i := range s.On {
		s.On[i], s.BadSource[i] = often(80), often(4)
	}
	for i, x := range p.Links {
		movable := x.Kind != api.Cable
		s.Closed[i], s.Locked[i], s.BadLink[i] = !movable || often(60), movable && often(15), often(4)
	}
	for i := range s.BadBus {
		s.BadBus[i], s.Earthed[i] = often(3), often(10)
	}
	return s
}

// randomStep returns a step that may be one of a plant.
func randomStep(r *rand.Rand) api.Step { return step(api.Deed(from(r, 1, 8)), r.IntN(8)) }

// randomPart returns a part that is mostly one of a plant.
func randomPart(r *rand.Rand, p api.Plant) api.Part {
	if r.IntN(12) == 0 {
		return api.Part{Kind: api.PartKind(from(r, -1, 5)), Index: from(r, -1, 12)}
	}
	l, _ := plant.Parts(p)
	return l[r.IntN(len(l))]
}

// randomScript returns a script that can begin, with at most so many items; each item is possible after those before it.
func randomScript(r *rand.Rand, most int) script {
	for {
		x := script{p: randomPlant(r)}
		x.s = randomState(r, x.p)
		if r.IntN(3) == 0 {
			x.t.Fed = []int{r.IntN(len(x.p.Racks))}
		}
		if r.IntN(6) == 0 {
			x.t.Crew = []int{r.IntN(x.p.Buses)}
		}
		if steps.Legal(x.p, x.s, x.t) != api.OK {
			continue
		}
		now := newModel(x)
		for range 20 * most {
			if len(x.l) == most {
				break
			}
			next := acts.Item{Step: randomStep(r), Ack: r.IntN(3) == 0}
			if s, e := now.stepped(next.Step); e == api.OK {
				now.states = append(now.states, s)
				x.l = append(x.l, next)
			}
		}
		return x
	}
}

// randomEvent returns an event, whose step does not matter.
func randomEvent(r *rand.Rand, m *model) acts.Event {
	switch n := r.IntN(100); {
	case n < 55:
		return next
	case n < 75:
		return acked([]int{1, 7, 1000, 1, 7, 0, 1001}[r.IntN(7)])
	case n < 80:
		return undo
	case n < 90:
		return failed(randomPart(r, m.p))
	}
	return mended(randomPart(r, m.p))
}
