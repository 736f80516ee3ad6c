package acts

import (
	"iter"

	"switchgear/api"
	"switchgear/plant"
	"switchgear/steps"
)

// Run is a procedure that is carried out.
type Run struct {
	// self tells the runs that were returned from zero values, and from copies of their own making.
	self *Run
	setting
	now         api.State
	done        int
	waits, back bool
	log         []Event
}

// newRun returns a run that is at its beginning.
func newRun(x setting) *Run {
	r := &Run{setting: x, now: x.start}
	r.self = r
	return r
}

// hasBegun reports whether a run was returned by Begin or Replay.
func (r *Run) hasBegun() bool { return r != nil && r.self == r }

// errorOfLog returns why nothing can be written into the log.
func (r *Run) errorOfLog() api.Errno {
	if !r.hasBegun() {
		return api.ErrNil
	}
	if len(r.log) >= MaxLog {
		return api.ErrMany
	}
	return api.OK
}

// write appends an event to the log.
func (r *Run) write(x Event) { r.log = append(r.log, x) }

// take does a step that can be done and leads to a legal state; then it has the effect, too.
func (r *Run) take(kind Kind, x api.Step, effect func()) (e api.Errno) {
	next, e := steps.Do(r.plant, r.now, x)
	// Nothing may change before all has been asked, so the effect waits until it is known what is returned.
	defer func() {
		if e == api.OK {
			r.now = next
			effect()
			r.write(Event{Kind: kind, Step: x})
		}
	}()
	if e != api.OK {
		return e
	}
	return steps.Legal(r.plant, next, r.task)
}

// suffer lets a part fail or be mended.
func (r *Run) suffer(x Event) api.Errno {
	if e := r.errorOfLog(); e != api.OK {
		return e
	}
	next, e := r.after(r.now, x)
	if e != api.OK {
		return e
	}
	r.now = next
	r.write(x)
	return api.OK
}

// again lets an event have its effect again.
func (r *Run) again(x Event) api.Errno {
	does := map[Kind]func(*Run, Event) api.Errno{
		Did:    (*Run).nextAgain,
		Acked:  (*Run).ackAgain,
		Undid:  (*Run).undoAgain,
		Failed: (*Run).suffer,
		Mended: (*Run).suffer,
	}
	if !x.hasForm() {
		return api.ErrForm
	}
	if e := does[x.Kind](r, x); e != api.OK {
		return e
	}
	// What was written has the step that was done, which may be another one.
	if r.log[len(r.log)-1] != x {
		return api.ErrForm
	}
	return api.OK
}

// nextAgain does the next step, whatever that of the event is.
func (r *Run) nextAgain(Event) api.Errno { return r.Next() }

// undoAgain undoes the last step, whatever that of the event is.
func (r *Run) undoAgain(Event) api.Errno { return r.Undo() }

// ackAgain acknowledges by the one who did.
func (r *Run) ackAgain(x Event) api.Errno { return r.Ack(x.Who) }

// hasForm reports whether an event has a kind, and nothing that does not belong to it.
func (x Event) hasForm() bool {
	bare := Event{Kind: x.Kind}
	switch x.Kind {
	case Did, Undid:
		bare.Step = x.Step
	case Acked:
		bare.Who = x.Who
	case Failed, Mended:
		bare.Part = x.Part
	default:
		return false
	}
	return x == bare
}

// states yields the state before each event of the log, with the event's index, and the state after the last one.
func (r *Run) states() iter.Seq2[int, api.State] {
	return func(yield func(int, api.State) bool) {
		now := r.start
		for i := 0; yield(i, now) && i < len(r.log); i++ {
			// The event has had its effect before, so that there is no error.
			now, _ = r.after(now, r.log[i])
		}
	}
}

// after returns the state after an event.
func (x setting) after(s api.State, event Event) (api.State, api.Errno) {
	switch event.Kind {
	case Did, Undid:
		return steps.Do(x.plant, s, event.Step)
	case Failed:
		return plant.Break(x.plant, s, event.Part)
	case Mended:
		return plant.Mend(x.plant, s, event.Part)
	}
	return s, api.OK
}
