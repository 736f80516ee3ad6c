package house

import (
	"iter"

	"switchgear/api"
	"switchgear/guard"
	"switchgear/paths"
)

// The numbers of the claims.
const (
	claimTwo       = 1
	claimSelective = 2
	claimArc       = 3
	claimRide      = 4
)

// findings yields what contradicts claims, claim by claim. The plant and its state are valid, so that no layer has an error but for bank.Hold.
func (h *House) findings(l Claims) iter.Seq[Finding] {
	return func(yield func(Finding) bool) {
		for _, claim := range []struct {
			made    bool
			against iter.Seq[Finding]
		}{
			{l.Two, h.breaches()},
			{l.Selective, h.unselective()},
			{l.Arc > 0, h.arcs(l.Arc)},
			{l.Ride > 0, h.shortRide(l.Ride)},
		} {
			if !claim.made {
				continue
			}
			for x := range claim.against {
				if !yield(x) {
					return
				}
			}
		}
	}
}

// breaches yields what breaks the promises of paths.
func (h *House) breaches() iter.Seq[Finding] {
	return func(yield func(Finding) bool) {
		list, _ := paths.Promise(h.plant, h.now, h.transfers)
		for _, x := range list {
			if !yield(Finding{Claim: claimTwo, Rack: x.Rack, Part: x.Part}) {
				return
			}
		}
	}
}

// unselective yields the buses whose faults are not selectively cleared.
func (h *House) unselective() iter.Seq[Finding] {
	return func(yield func(Finding) bool) {
		for bus := range h.plant.Buses {
			ok, _ := guard.Selective(h.plant, h.now, bus)
			if !ok && !yield(Finding{Claim: claimSelective, Part: busPart(bus)}) {
				return
			}
		}
	}
}

// arcs yields the buses whose faults have more energy than most.
func (h *House) arcs(most int) iter.Seq[Finding] {
	return func(yield func(Finding) bool) {
		for bus := range h.plant.Buses {
			x, _ := guard.Clear(h.plant, h.now, bus)
			if x.Energy > most && !yield(Finding{Claim: claimArc, Part: busPart(bus), Value: x.Energy}) {
				return
			}
		}
	}
}

// shortRide yields that the house does not go on for so many seconds.
func (h *House) shortRide(least int) iter.Seq[Finding] {
	return func(yield func(Finding) bool) {
		if x, e := h.Ride(); e != api.OK || x.Seconds < least {
			yield(Finding{Claim: claimRide, Value: x.Seconds})
		}
	}
}

// busPart returns a bus as a part.
func busPart(bus int) api.Part { return api.Part{Kind: api.BusPart, Index: bus} }
