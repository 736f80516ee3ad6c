package acts_test

import (
	"slices"
	"testing"
	"time"

	"switchgear/acts"
	"switchgear/api"
)

// failures returns so many events that change nothing in what can be done.
func failures(n int) []acts.Event {
	return slices.Repeat([]acts.Event{mended(link(0))}, n)
}

// TestFullLog has 999 events before each function, and 1000: then nothing has an effect any more, whatever else is wrong.
func TestFullLog(t *testing.T) {
	x := example()
	for _, c := range []struct {
		name   string
		before []acts.Event
		event  acts.Event
	}{
		{"Next", nil, next},
		{"Next of the last item", []acts.Event{next, acked(1)}, next},
		{"Ack", []acts.Event{next}, acked(7)},
		{"Undo", []acts.Event{next}, undo},
		{"Fail", nil, failed(bus(1))},
		{"Mend", nil, mended(bus(1))},
	} {
		l := append(slices.Clone(c.before), failures(999-len(c.before))...)
		r := all(t, x, l...)
		if e := act(r, c.event); e != api.OK {
			t.Error(c.name, e)
		}
		if s := look(t, r); len(s.log) != 1000 {
			t.Error(c.name, len(s.log))
		}
		refused(t, c.name, all(t, x, append(l, failures(1)...)...), c.event, api.ErrMany)
	}
	full := all(t, x, failures(1000)...)
	for _, event := range []acts.Event{next, acked(1), acked(0), undo, failed(api.Part{}), mended(bus(3))} {
		refused(t, "what has another error, too", full, event, api.ErrMany)
	}
	refused(t, "it waits", all(t, x, append(failures(999), next)...), next, api.ErrMany)
	refused(t, "it goes back", all(t, x, append(append(failures(998), next), undo)...), next, api.ErrMany)
	if e := full.Legal(); e != api.OK {
		t.Error(e)
	}
}

// TestLongReplay has logs of 1000 and 1001 events.
func TestLongReplay(t *testing.T) {
	x := example()
	log := failures(1000)
	log[999] = did(api.Open, 0)
	refused(t, "1000 events", replayed(t, x, log...), next, api.ErrMany)
	replayed(t, x, log[1:]...)
	for _, more := range []acts.Event{acked(1), {}} {
		notReplayed(t, "1001 events", x, append(slices.Clone(log), more), 0, api.ErrMany)
	}
	log[0] = acts.Event{}
	notReplayed(t, "1001 events, the first of which is none", x, append(log, failures(1)...), 0, api.ErrMany)
	notReplayed(t, "many events", x, make([]acts.Event, 100000), 0, api.ErrMany)
	log[999], log[0] = acked(1), failures(1)[0]
	notReplayed(t, "the last of 1000 events", x, log, 999, api.ErrState)
}

// TestGreatest has the greatest plant, the longest procedure and the longest log: all is quick.
func TestGreatest(t *testing.T) {
	p := api.Plant{Buses: api.MaxBuses}
	for i := range api.MaxSources {
		p.Sources = append(p.Sources, api.Source{Bus: i, Kind: api.Grid, Power: 1, Sync: 1, Ohm: 10})
	}
	for i := range api.MaxLinks {
		kind := []api.LinkKind{api.Switch, api.Breaker}[i%2]
		p.Links = append(p.Links, api.Link{A: i % 24, B: (i + 1 + i/24) % 24, Kind: kind, Most: 1, Ohm: 10})
	}
	for i := range api.MaxRacks {
		p.Racks = append(p.Racks, api.Rack{Feeds: [2]int{i, (i + 1) % 24}, Power: 1})
	}
	x := script{p: p, s: start(p)}
	for i := range 64 {
		x.l = append(x.l, waiting([]api.Deed{api.Open, api.Close}[i%2], i/2))
		if i < 24 {
			x.t.Fed, x.t.Crew = append(x.t.Fed, i), nil
		}
	}
	begin := time.Now()
	r, m := begun(t, x)
	for range x.l {
		for _, event := range []acts.Event{next, acked(1000)} {
			if e, f := act(r, event), act(m, event); e != f || e != api.OK {
				t.Fatal(e, f)
			}
		}
	}
	for i := range 1000 - 2*64 - 40 - 64 {
		part := link(i % 40)
		for k, x := range []runner{r, m} {
			if e := act(x, []acts.Event{failed(part), mended(part)}[i/40%2]); e != api.OK {
				t.Fatal(k, e)
			}
		}
	}
	for i := range 40 {
		act(r, mended(link(i)))
	}
	if s := look(t, r); len(s.log) != 936 || s.status.Done != 64 {
		t.Error(len(s.log), s.status)
	}
	for range x.l {
		if e := r.Undo(); e != api.OK {
			t.Fatal(e)
		}
	}
	s := look(t, r)
	if !sameState(s.state, x.s) || len(s.log) != 1000 {
		t.Error(len(s.log), s.status)
	}
	if !look(t, replayed(t, x, s.log...)).same(s) {
		t.Error("another run")
	}
	if d := time.Since(begin); d > 20*time.Second {
		t.Error(d)
	}
}
