package house

import (
	"slices"

	"switchgear/api"
	"switchgear/meter"
	"switchgear/paths"
	"switchgear/plant"
	"switchgear/steps"
)

// minutes is how long a rack is out in an hour in which it is not fed.
const minutes = 60

// obey lets an order have its effect. With an error it may be half done: it is for Act to undo it.
func (h *House) obey(o Order) api.Errno {
	does := map[Kind]func(*House, Order) api.Errno{
		Fault:   (*House).fault,
		Mend:    (*House).mend,
		Switch:  (*House).operate,
		Hour:    (*House).pass,
		Destroy: (*House).destroy,
		Retire:  (*House).retire,
	}
	do, ok := does[o.Kind]
	if !ok {
		return api.ErrCommand
	}
	return do(h, o)
}

// fault lets a part fail.
func (h *House) fault(o Order) (e api.Errno) {
	h.now, e = plant.Break(h.plant, h.now, o.Part)
	return h.settle(e)
}

// mend lets a part be whole again.
func (h *House) mend(o Order) (e api.Errno) {
	h.now, e = plant.Mend(h.plant, h.now, o.Part)
	return h.settle(e)
}

// operate does a step. The state that it leads to must be legal before transfers act, not after it.
func (h *House) operate(o Order) (e api.Errno) {
	h.now, e = steps.Do(h.plant, h.now, o.Step)
	if e == api.OK {
		e = steps.Legal(h.plant, h.now, h.task)
	}
	return h.settle(e)
}

// settle lets transfers act, unless there is an error already.
func (h *House) settle(e api.Errno) api.Errno {
	if e == api.OK {
		h.now, _, e = paths.Settle(h.plant, h.now, h.transfers)
	}
	return e
}

// pass lets an hour pass.
func (h *House) pass(Order) api.Errno {
	hour := len(h.rows)
	if hour >= MaxHours {
		return api.ErrMany
	}
	row, fed := Row{Served: h.served()}, h.fed()
	h.out = slices.Clone(h.out)
	for rack, x := range h.inUse() {
		value := x.Power
		if !fed[rack] {
			value = 0
			row.Dark++
			if x.Paths >= 1 {
				h.out[rack] += minutes
			}
		}
		row.Demand += x.Power
		row.Metered += value
		h.readings = append(h.readings, meter.Reading{Meter: rack, Hour: hour, Value: value})
	}
	h.rows = append(h.rows, row)
	return api.OK
}

// destroy takes disks from a rack.
func (h *House) destroy(o Order) api.Errno {
	if !h.hasRack(o.Rack) {
		return api.ErrRack
	}
	if o.Count < 1 || o.Count > h.disks[o.Rack] {
		return api.ErrRange
	}
	h.disks = slices.Clone(h.disks)
	h.disks[o.Rack] -= o.Count
	return api.OK
}

// retire takes a rack out of use.
func (h *House) retire(o Order) api.Errno {
	switch {
	case !h.hasRack(o.Rack):
		return api.ErrRack
	case h.retired[o.Rack]:
		return api.ErrDone
	case h.disks[o.Rack] > 0 || h.plant.Racks[o.Rack].Paths != 0:
		return api.ErrState
	}
	h.retired = slices.Clone(h.retired)
	h.retired[o.Rack] = true
	return api.OK
}
