package acts_test

import (
	"math/rand/v2"
	"testing"

	"switchgear/acts"
	"switchgear/api"
)

// TestAgainstWords carries out random procedures with random events, and compares all that runs show with the chapter's words.
func TestAgainstWords(t *testing.T) {
	r := rand.New(rand.NewPCG(13, 1))
	met, causes := map[acts.Kind]map[api.Errno]int{}, 0
	for kind := acts.Did; kind <= acts.Mended; kind++ {
		met[kind] = map[api.Errno]int{}
	}
	for range 600 {
		run, m := begun(t, randomScript(r, from(r, 0, 8)))
		for range 25 {
			event := randomEvent(r, m)
			want := act(m, event)
			if e := act(run, event); e != want {
				t.Fatalf("%+v: %+v: %d, not %d", m, event, e, want)
			}
			if s := look(t, run); !s.same(m.seen()) {
				t.Fatalf("%+v: %+v: %+v", m, event, s)
			}
			met[event.Kind][want]++
			causes += len(m.causes())
		}
	}
	for kind, least := range map[acts.Kind]map[api.Errno]int{
		acts.Did:    {api.OK: 500, api.ErrState: 500, api.ErrAck: 500, api.ErrNone: 500, api.ErrBad: 20, api.ErrLocked: 0, api.ErrArc: 1, api.ErrDark: 10, api.ErrEarthed: 1},
		acts.Acked:  {api.OK: 300, api.ErrState: 500, api.ErrArg: 100},
		acts.Undid:  {api.OK: 200, api.ErrNone: 100, api.ErrBad: 5, api.ErrDark: 1},
		acts.Failed: {api.OK: 500, api.ErrPart: 50},
		acts.Mended: {api.OK: 500, api.ErrPart: 50},
	} {
		for e, n := range least {
			if met[kind][e] < n {
				t.Error("met:", kind, met[kind])
			}
		}
	}
	if causes < 1000 {
		t.Error("met:", causes)
	}
}

// TestGoBack goes back from wherever a run is while no part fails: no state is illegal, and the last one is that of the beginning.
func TestGoBack(t *testing.T) {
	r := rand.New(rand.NewPCG(13, 2))
	met := 0
	for range 300 {
		x := randomScript(r, from(r, 0, 6))
		for done := range len(x.l) + 1 {
			for _, waits := range []bool{false, true} {
				run, _ := begun(t, x)
				legal := func() {
					if e := run.Legal(); e != api.OK {
						t.Fatalf("%+v: not legal: %d", x, e)
					}
				}
				for i := range done {
					if e := run.Next(); e != api.OK {
						t.Fatalf("%+v: Next: %d", x, e)
					}
					legal()
					if x.l[i].Ack && (i < done-1 || !waits) && run.Ack(from(r, 1, 1000)) != api.OK {
						t.Fatalf("%+v: Ack", x)
					}
				}
				for range done {
					if e := run.Undo(); e != api.OK {
						t.Fatalf("%+v: Undo: %d", x, e)
					}
					legal()
				}
				refused(t, "no item is done", run, undo, api.ErrNone)
				if s := look(t, run); !sameState(s.state, x.s) || s.status != (acts.Status{Left: len(x.l), Back: done > 0}) || len(s.causes) > 0 {
					t.Fatalf("%+v: %+v", x, s)
				}
				met++
			}
		}
	}
	if met < 1500 {
		t.Error("met:", met)
	}
}

// TestGoForth ends procedures by as many Next, with an Ack after each that waits.
func TestGoForth(t *testing.T) {
	r := rand.New(rand.NewPCG(13, 3))
	for range 300 {
		x := randomScript(r, from(r, 0, 20))
		run, m := begun(t, x)
		for _, item := range x.l {
			if e := run.Next(); e != api.OK {
				t.Fatal(e)
			}
			m.Next()
			if item.Ack {
				refused(t, "it waits", run, next, api.ErrAck)
				if e := run.Ack(1); e != api.OK {
					t.Fatal(e)
				}
				m.Ack(1)
			}
		}
		if s := look(t, run); s.status != (acts.Status{Done: len(x.l)}) || !s.same(m.seen()) || s.legal != api.OK {
			t.Fatalf("%+v: %+v", x, s)
		}
		refused(t, "all is done", run, next, api.ErrNone)
	}
}

// TestReplayAgain replays the logs of random runs, and some that were changed.
func TestReplayAgain(t *testing.T) {
	r := rand.New(rand.NewPCG(13, 4))
	same, wrong := 0, map[api.Errno]int{}
	for range 600 {
		x := randomScript(r, from(r, 0, 8))
		run, m := begun(t, x)
		for range 20 {
			event := randomEvent(r, m)
			act(run, event)
			act(m, event)
		}
		log := look(t, run).log
		if !look(t, replayed(t, x, log...)).same(look(t, run)) {
			t.Fatalf("%+v: another run", log)
		}
		if len(log) == 0 {
			continue
		}
		// Another one of its events instead of one, or a step or a kind that is changed.
		at := r.IntN(len(log))
		switch r.IntN(3) {
		case 0:
			log[at] = log[r.IntN(len(log))]
		case 1:
			log[at].Step = randomStep(r)
		case 2:
			log[at].Kind = acts.Kind(from(r, 0, 6))
		}
		n, want := replayedBy(x, log)
		got, i, e := acts.Replay(x.p, x.s, x.t, x.l, log)
		if i != n || e != want || (got == nil) != (e != api.OK) {
			t.Fatalf("%+v %+v: %d %d, not %d %d", x, log, i, e, n, want)
		}
		if e == api.OK {
			same++
		}
		wrong[e]++
	}
	if same < 50 || wrong[api.ErrForm] < 200 || wrong[api.ErrState] < 5 || wrong[api.ErrNone] < 5 || wrong[api.ErrPart] > 0 {
		t.Error("met:", same, wrong)
	}
}

// replayedBy replays a log by the chapter's words: it returns the number of its events, or the first that has an error.
func replayedBy(x script, log []acts.Event) (int, api.Errno) {
	m := newModel(x)
	for i, event := range log {
		bare := acts.Event{Kind: event.Kind}
		switch event.Kind {
		case acts.Did, acts.Undid:
			bare.Step = event.Step
		case acts.Acked:
			bare.Who = event.Who
		case acts.Failed, acts.Mended:
			bare.Part = event.Part
		default:
			return i, api.ErrForm
		}
		if event != bare {
			return i, api.ErrForm
		}
		if e := act(m, event); e != api.OK {
			return i, e
		}
		if m.log[i].Step != event.Step {
			return i, api.ErrForm
		}
	}
	return len(log), api.OK
}
