package meter

import "switchgear/api"

// slot is what a chain has at most one reading for.
type slot struct{ meter, hour int }

// register has the slots of the readings that were met.
type register map[slot]bool

// enter notes a reading, or returns what is wrong with it after those that were met.
func (r register) enter(x Reading) api.Errno {
	if !x.isRight() {
		return api.ErrRange
	}
	s := slot{x.Meter, x.Hour}
	if r[s] {
		return api.ErrMeter
	}
	r[s] = true
	return api.OK
}

// start returns what stands for the sign before the first link.
func start(key uint64) uint64 { return Mix(key, 1) }

// sign returns the sign of a right reading after the sign of the link before.
func (x Reading) sign(key, before uint64) uint64 {
	s := Mix(before, uint64(x.Meter))
	s = Mix(s, uint64(x.Hour))
	s = Mix(s, uint64(x.Value))
	return Mix(s, key)
}
