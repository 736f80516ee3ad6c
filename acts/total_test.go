package acts_test

import (
	"math"
	"math/rand/v2"
	"slices"
	"testing"

	"switchgear/acts"
	"switchgear/api"
	"switchgear/plant"
	"switchgear/steps"
)

// TestNoRun calls all methods of runs that Begin and Replay did not return.
func TestNoRun(t *testing.T) {
	begun := all(t, example(), next)
	before := look(t, begun)
	copied := *begun
	var holder struct{ acts.Run }
	for name, r := range map[string]*acts.Run{"nil": nil, "zero": {}, "new": new(acts.Run), "a copy": &copied, "one in a struct": &holder.Run} {
		for _, event := range []acts.Event{next, acked(1), acked(0), undo, failed(bus(0)), failed(api.Part{}), mended(bus(0)), mended(api.Part{})} {
			if e := act(r, event); e != api.ErrNil {
				t.Error(name, event, e)
			}
		}
		if s, e := r.Status(); e != api.ErrNil || s != (acts.Status{}) {
			t.Error(name, s, e)
		}
		if s, e := r.State(); e != api.ErrNil || !sameState(s, api.State{}) {
			t.Error(name, s, e)
		}
		if e := r.Legal(); e != api.ErrNil {
			t.Error(name, e)
		}
		if l, e := r.Log(); e != api.ErrNil || len(l) != 0 {
			t.Error(name, l, e)
		}
		if l, e := r.Causes(); e != api.ErrNil || len(l) != 0 {
			t.Error(name, l, e)
		}
	}
	if !look(t, begun).same(before) {
		t.Error("a copy has changed the run")
	}
	// A run that is overwritten with the zero value is none any more.
	*begun = acts.Run{}
	if _, e := begun.Status(); e != api.ErrNil {
		t.Error(e)
	}
}

// fault spoils a script and a log.
type fault struct {
	name  string
	spoil func(x *script, log *[]acts.Event)
	want  api.Errno
	at    int
}

// faults has what may be wrong for Replay, in the order of the chapter's table; all but the last six are wrong for Begin, too.
func faults() []fault {
	return []fault{
		{"many items", func(x *script, _ *[]acts.Event) { x.l = append(x.l, make([]acts.Item, 63)...) }, api.ErrMany, 0},
		{"buses", func(x *script, _ *[]acts.Event) { x.p.Buses = 25 }, api.ErrBus, 0},
		{"a source", func(x *script, _ *[]acts.Event) { x.p.Sources[0].Sync = 9 }, api.ErrSource, 0},
		{"a link", func(x *script, _ *[]acts.Event) { x.p.Links[0].Ohm = 0 }, api.ErrLink, 0},
		{"a rack", func(x *script, _ *[]acts.Event) { x.p.Racks[0].Power = 0 }, api.ErrRack, 0},
		{"the state", func(x *script, _ *[]acts.Event) { x.s.Locked = nil }, api.ErrState, 0},
		{"the task", func(x *script, _ *[]acts.Event) { x.t.Crew = append(x.t.Crew, 3) }, api.ErrArg, 0},
		{"earthed", func(x *script, _ *[]acts.Event) { x.s.Earthed[0] = true }, api.ErrEarthed, 0},
		{"dark", func(x *script, _ *[]acts.Event) { x.t.Fed, x.s.BadBus[2] = []int{0}, true }, api.ErrDark, 0},
		{"a crew", func(x *script, _ *[]acts.Event) { x.t.Crew = append(x.t.Crew, 1) }, api.ErrZone, 0},
		{"the first step", func(x *script, _ *[]acts.Event) { x.l[0].Step.Deed = 9 }, api.ErrArg, 0},
		{"the second step", func(x *script, _ *[]acts.Event) { x.l[1].Step.Index = 0 }, api.ErrDone, 1},
		{"many events", func(_ *script, log *[]acts.Event) { *log = append(*log, make([]acts.Event, 1000)...) }, api.ErrMany, 0},
		{"the first event", func(_ *script, log *[]acts.Event) { (*log)[0].Who = 3 }, api.ErrForm, 0},
		{"the part of the second event", func(_ *script, log *[]acts.Event) { (*log)[1].Part.Index = 3 }, api.ErrPart, 1},
		{"who", func(_ *script, log *[]acts.Event) { (*log)[2].Who = 0 }, api.ErrArg, 2},
		{"the fourth event", func(_ *script, log *[]acts.Event) { (*log)[3].Kind = 0 }, api.ErrForm, 3},
		{"the fifth event", func(_ *script, log *[]acts.Event) { (*log)[4].Step.Index = 0 }, api.ErrForm, 4},
	}
}

// TestOrderOfErrors has arguments with some errors: the one that the chapter's table names first must show.
func TestOrderOfErrors(t *testing.T) {
	list := faults()
	spoiled := func(l ...fault) {
		t.Helper()
		x, log := example().copied(), whole()
		// What is named last is spoiled first, so that what is named first stays.
		for _, f := range slices.Backward(l) {
			f.spoil(&x, &log)
		}
		if r, n, e := acts.Replay(x.p, x.s, x.t, x.l, log); r != nil || n != l[0].at || e != l[0].want {
			t.Errorf("Replay, %s and %d more: %d %d", l[0].name, len(l)-1, n, e)
		}
		r, n, e := acts.Begin(x.p, x.s, x.t, x.l)
		if l[0].want == e && r == nil && n == l[0].at {
			return
		}
		if slices.IndexFunc(list, func(f fault) bool { return f.name == l[0].name }) < len(list)-6 || r == nil || n != 2 || e != api.OK {
			t.Errorf("Begin, %s and %d more: %d %d", l[0].name, len(l)-1, n, e)
		}
	}
	for i, f := range list {
		spoiled(f)
		spoiled(list[i:]...)
		for _, g := range list[i+1:] {
			spoiled(f, g)
		}
	}
}

// TestOddArguments begins and replays with arguments that are often wrong: nothing may panic.
func TestOddArguments(t *testing.T) {
	odd := []int{math.MinInt, math.MinInt + 1, -1 << 32, -2, -1, 0, 1, 2, 3, 5, 8, 9, 24, 25, 40, 64, 65, 1000, 1001, 1 << 32, math.MaxInt - 1, math.MaxInt}
	r := rand.New(rand.NewPCG(13, 5))
	spoil := func(l ...*int) {
		for _, n := range l {
			if r.IntN(40) == 0 {
				*n = odd[r.IntN(len(odd))]
			}
		}
	}
	right, wrong := [2]int{}, [2]int{}
	count := func(i int, run *acts.Run, n, most int, e api.Errno) {
		if (run == nil) != (e != api.OK) || n < 0 || n > most {
			t.Fatal(i, run, n, e)
		}
		if e == api.OK {
			right[i]++
		} else {
			wrong[i]++
		}
	}
	for range 3000 {
		x := randomScript(r, from(r, 0, 5))
		m := newModel(x)
		for range 10 {
			act(m, randomEvent(r, m))
		}
		x = x.copied()
		spoil(&x.p.Buses, &x.p.Sources[0].Bus, &x.p.Links[0].A, &x.p.Racks[0].Feeds[1])
		for i := range x.l {
			spoil((*int)(&x.l[i].Step.Deed), &x.l[i].Step.Index)
		}
		for _, l := range [][]int{x.t.Fed, x.t.Crew} {
			for i := range l {
				spoil(&l[i])
			}
		}
		for i := range m.log {
			y := &m.log[i]
			spoil((*int)(&y.Kind), (*int)(&y.Step.Deed), &y.Step.Index, (*int)(&y.Part.Kind), &y.Part.Index, &y.Who)
		}
		if r.IntN(20) == 0 {
			x.s.On = append(x.s.On, true)
		}
		run, n, e := acts.Begin(x.p, x.s, x.t, x.l)
		count(0, run, n, len(x.l), e)
		run, n, e = acts.Replay(x.p, x.s, x.t, x.l, m.log)
		count(1, run, n, max(len(x.l), len(m.log)), e)
		if e != api.OK {
			continue
		}
		for range 5 {
			act(run, acts.Event{Kind: acts.Kind(from(r, 1, 5)), Who: odd[r.IntN(len(odd))], Part: api.Part{Kind: api.PartKind(odd[r.IntN(len(odd))]), Index: odd[r.IntN(len(odd))]}})
			look(t, run)
		}
	}
	if min(right[0], right[1], wrong[0], wrong[1]) < 500 {
		t.Error("met:", right, wrong)
	}
}

// TestNothing has the zero values as arguments, and empty lists.
func TestNothing(t *testing.T) {
	r, n, e := acts.Begin(api.Plant{}, api.State{}, steps.Task{}, nil)
	if r != nil || n != 0 || e != api.ErrBus {
		t.Error(r, n, e)
	}
	one := script{p: api.Plant{Buses: 1}, s: api.State{Earthed: []bool{false}, BadBus: []bool{false}}}
	empty := one.with(func(x *script) {
		x.p.Sources, x.p.Links, x.p.Racks = []api.Source{}, []api.Link{}, []api.Rack{}
		x.s.Closed, x.s.Locked, x.s.BadLink, x.s.On, x.s.BadSource = []bool{}, []bool{}, []bool{}, []bool{}, []bool{}
		x.t = steps.Task{Fed: []int{}, Crew: []int{}, Allowed: []api.Step{}, Goal: []api.Step{}}
		x.l = []acts.Item{}
	})
	for _, x := range []script{one, empty} {
		for _, log := range [][]acts.Event{nil, {}} {
			r, n, e := acts.Replay(x.p, x.s, x.t, x.l, log)
			if r == nil || n != 0 || e != api.OK {
				t.Fatal(r, n, e)
			}
			if s := look(t, r); !s.same(seen{state: one.s}) {
				t.Errorf("%+v", s)
			}
			refused(t, "no items", r, next, api.ErrNone)
			refused(t, "no items", r, undo, api.ErrNone)
		}
	}
}

// spoilScript changes all that a script has, in place.
func spoilScript(x script) {
	for _, l := range lists(&x.s) {
		for i := range *l {
			(*l)[i] = !(*l)[i]
		}
	}
	for i := range x.p.Links {
		clear(x.p.Links[i].Trip)
	}
	clear(x.p.Sources)
	clear(x.p.Links)
	clear(x.p.Racks)
	for _, l := range [][]int{x.t.Fed, x.t.Crew} {
		for i := range l {
			l[i] = -7
		}
	}
	clear(x.l)
}

// TestOwnMemory changes arguments after Begin and Replay, and results: the run must go on as if nothing had been changed.
func TestOwnMemory(t *testing.T) {
	r := rand.New(rand.NewPCG(13, 6))
	for range 300 {
		x := randomScript(r, from(r, 1, 6))
		x.p.Links = append(x.p.Links, api.Link{A: 0, B: 1, Kind: api.Breaker, Most: 1, Ohm: 10, Trip: []api.Trip{{Amps: 5, Millis: 5}}})
		x.s.Closed, x.s.Locked, x.s.BadLink = append(x.s.Closed, false), append(x.s.Locked, true), append(x.s.BadLink, false)
		m := newModel(x)
		first, rest := 0, []acts.Event{}
		for range 20 {
			event := randomEvent(r, m)
			act(m, event)
			rest = append(rest, event)
		}
		first = r.IntN(len(m.log) + 1)
		given, log := x.copied(), slices.Clone(m.log[:first])
		run, _, e := acts.Replay(given.p, given.s, given.t, given.l, log)
		if e != api.OK {
			t.Fatal(e)
		}
		again, _ := begun(t, given)
		spoilScript(given)
		clear(log)
		for _, event := range m.log[first:] {
			if e := act(run, event); e != api.OK {
				t.Fatal(e)
			}
			spoilSeen(look(t, run))
		}
		for _, event := range rest {
			act(again, event)
			spoilSeen(look(t, again))
		}
		if a, b := look(t, run), look(t, again); !a.same(m.seen()) || !b.same(m.seen()) {
			t.Fatalf("%+v %+v", a, b)
		}
	}
}

// spoilSeen changes what a run has shown, and what may stand behind it.
func spoilSeen(x seen) {
	for _, l := range lists(&x.state) {
		all := (*l)[:cap(*l)]
		for i := range all {
			all[i] = !all[i]
		}
	}
	clear(x.log[:cap(x.log)])
	clear(x.causes[:cap(x.causes)])
}

// TestArgumentsStay checks that no argument is changed, and that nothing is written behind its lists.
func TestArgumentsStay(t *testing.T) {
	x := example().with(func(x *script) { x.t.Fed, x.t.Crew = []int{}, []int{} })
	items, log := slices.Repeat(x.l, 4), slices.Repeat(whole(), 4)
	given := x.copied()
	given.l = slices.Clone(items)[:2]
	events := slices.Clone(log)[:7]
	run, _, e := acts.Replay(given.p, given.s, given.t, given.l, events)
	if e != api.OK {
		t.Fatal(e)
	}
	refused(t, "it went back", run, next, api.ErrState)
	act(run, failed(bus(1)))
	if !slices.Equal(given.l[:8], items) || !slices.Equal(events[:28], log) || !sameState(given.s, x.s) {
		t.Error(given, events)
	}
	if a, _ := plant.Format(given.p); a == "" {
		t.Error(given.p)
	} else if b, _ := plant.Format(x.p); a != b {
		t.Error(a, b)
	}
}

// TestApart lets two runs of one script go different ways.
func TestApart(t *testing.T) {
	x := example()
	a, m := begun(t, x)
	b, n := begun(t, x)
	for _, event := range []acts.Event{next, acked(1), next, failed(bus(0))} {
		act(a, event)
		act(m, event)
	}
	for _, event := range []acts.Event{failed(link(1)), next, undo} {
		act(b, event)
		act(n, event)
	}
	if !look(t, a).same(m.seen()) || !look(t, b).same(n.seen()) {
		t.Error(look(t, a), look(t, b))
	}
}

// TestListsOfTheirOwn checks that the lists of a state share no memory with each other.
func TestListsOfTheirOwn(t *testing.T) {
	s, _ := all(t, example(), next).State()
	before := copiedState(s)
	for i, l := range lists(&s) {
		*l = (*l)[:cap(*l)]
		for k := range *l {
			(*l)[k] = !(*l)[k]
		}
		for k, other := range lists(&s) {
			if k > i && !slices.Equal(*other, *lists(&before)[k]) {
				t.Error(i, k)
			}
		}
	}
}
