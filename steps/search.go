package steps

import (
	"iter"
	"slices"

	"switchgear/api"
)

// mostFlags is how many flags a valid state has at most.
const mostFlags = 3*api.MaxLinks + 2*api.MaxSources + 2*api.MaxBuses

// key stands for a valid state of a plant: a bit for each of its flags.
type key [(mostFlags + 63) / 64]uint64

// keyOf returns the key of a valid state.
func keyOf(s api.State) key {
	var k key
	bit := 0
	for _, flags := range [...][]bool{s.Closed, s.Locked, s.BadLink, s.On, s.BadSource, s.Earthed, s.BadBus} {
		for _, flag := range flags {
			if flag {
				k[bit/64] |= 1 << (bit % 64)
			}
			bit++
		}
	}
	return k
}

// arrival is how a state was reached: by a step from the state at a place.
type arrival struct {
	from int
	step api.Step
}

// reached is the states that were reached, in their order.
type reached struct {
	states   []api.State
	arrivals []arrival
	known    map[key]bool
}

func newReached() *reached { return &reached{known: map[key]bool{}} }

// has reports whether a state was reached.
func (r *reached) has(s api.State) bool { return r.known[keyOf(s)] }

// add takes in a state.
func (r *reached) add(s api.State, by arrival) {
	r.states = append(r.states, s)
	r.arrivals = append(r.arrivals, by)
	r.known[keyOf(s)] = true
}

// all yields the states with their places, also those that are taken in meanwhile.
func (r *reached) all() iter.Seq2[int, api.State] {
	return func(yield func(int, api.State) bool) {
		for place := 0; place < len(r.states); place++ {
			if !yield(place, r.states[place]) {
				return
			}
		}
	}
}

// program returns the steps that led from the first state to the last one; false if they are more than a program may have.
func (r *reached) program() ([]api.Step, bool) {
	var l []api.Step
	for place := len(r.states) - 1; place > 0; place = r.arrivals[place].from {
		l = append(l, r.arrivals[place].step)
	}
	slices.Reverse(l)
	return l, len(l) <= api.MaxSteps
}

// search reaches states until one is an end, which is the last one then. The errors are ErrLarge and ErrNone.
func (j *judge) search(s api.State, most int) (*reached, api.Errno) {
	met, e := newReached(), api.ErrNone
	met.add(twin(s), arrival{})
	if j.ends(s) {
		return met, api.OK
	}
search:
	for place, now := range met.all() {
		for _, x := range j.task.Allowed {
			next, found := j.beyond(met, now, x)
			if !found {
				continue
			}
			met.add(next, arrival{place, x})
			if len(met.states) > most {
				e = api.ErrLarge
				break search
			}
			if j.ends(next) {
				e = api.OK
				break search
			}
		}
	}
	return met, e
}

// leaves reports whether a step that is allowed leads out of states.
func (j *judge) leaves(met *reached) bool {
	for _, now := range met.all() {
		for _, x := range j.task.Allowed {
			if _, out := j.beyond(met, now, x); out {
				return true
			}
		}
	}
	return false
}

// beyond returns the state after a step; false if it cannot be done, or leads to a state that was reached or is not legal.
func (j *judge) beyond(met *reached, now api.State, x api.Step) (api.State, bool) {
	next, e := j.do(now, x)
	// What was reached is legal: that it is so need not be found out again.
	if e != api.OK || met.has(next) || j.legal(next) != api.OK {
		return api.State{}, false
	}
	return next, true
}
