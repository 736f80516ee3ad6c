package paths

import (
	"iter"
	"slices"

	"switchgear/api"
	"switchgear/plant"
)

// none stands for a bus or a link that there is not.
const none = -1

// checkTransfers returns the error of a state, or of a list of transfers.
func checkTransfers(p api.Plant, s api.State, l []Transfer) api.Errno {
	if e := plant.CheckState(p, s); e != api.OK {
		return e
	}
	wrong := func(x Transfer) bool { return !isTransfer(p, x) }
	if len(l) > MaxTransfers || slices.ContainsFunc(l, wrong) {
		return api.ErrArg
	}
	return api.OK
}

// isTransfer reports whether a transfer is one of a valid plant.
func isTransfer(p api.Plant, x Transfer) bool {
	moves := func(link int) bool {
		return isIndex(link, len(p.Links)) && p.Links[link].Kind != api.Cable
	}
	return isIndex(x.Watch, p.Buses) && moves(x.Close) &&
		(x.Open == none || moves(x.Open) && x.Open != x.Close)
}

// acting yields the transfers that act from a valid state on, each with the state after it.
func acting(p api.Plant, s api.State, l []Transfer) iter.Seq2[int, api.State] {
	return func(yield func(int, api.State) bool) {
		now := s
		acted := make([]bool, len(l))
	again:
		live, _ := plant.Live(p, now)
		for i, x := range l {
			if acted[i] || !ready(now, live, x) {
				continue
			}
			next := moved(now, x)
			if !helps(p, now, next, live, x.Watch) {
				continue
			}
			now, acted[i] = next, true
			if !yield(i, next) {
				return
			}
			goto again
		}
	}
}

// ready reports whether a transfer sees a dead bus, and its links can be moved.
func ready(s api.State, live []bool, x Transfer) bool {
	moves := func(link int) bool { return !s.BadLink[link] && !s.Locked[link] }
	return !s.BadBus[x.Watch] && !live[x.Watch] &&
		!s.Closed[x.Close] && moves(x.Close) &&
		(x.Open == none || moves(x.Open))
}

// moved returns the state after a transfer. It shares the memory of the lists that a transfer does not change.
func moved(s api.State, x Transfer) api.State {
	s.Closed = slices.Clone(s.Closed)
	if x.Open != none {
		s.Closed[x.Open] = false
	}
	s.Closed[x.Close] = true
	return s
}

// helps reports whether a bus is live in the next state, and nothing is worse than now.
func helps(p api.Plant, now, next api.State, live []bool, bus int) bool {
	then, _ := plant.Live(p, next)
	if !then[bus] {
		return false
	}
	for i, is := range then {
		dies := live[i] && !is
		earthsLive := is && !live[i] && next.Earthed[i]
		if dies || earthsLive {
			return false
		}
	}
	before, _ := plant.Clashes(p, now)
	after, _ := plant.Clashes(p, next)
	added := func(pair [2]int) bool { return !slices.Contains(before, pair) }
	return !slices.ContainsFunc(after, added)
}

// twin returns an equal state that shares no memory with s.
func twin(s api.State) api.State {
	for _, l := range []*[]bool{&s.Closed, &s.Locked, &s.BadLink, &s.On, &s.BadSource, &s.Earthed, &s.BadBus} {
		*l = slices.Clone(*l)
	}
	return s
}
