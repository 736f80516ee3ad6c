package heat_test

import (
	"math/big"
	"math/rand/v2"
	"slices"
	"testing"

	"switchgear/api"
	"switchgear/heat"
)

// chapter returns the hall of the chapter's first example, with its temperatures and its case.
func chapter() (heat.Hall, []int, heat.Case) {
	h := heat.Hall{
		Rooms:    []heat.Room{{Store: 1000, Limit: 30000}},
		Walls:    []heat.Wall{{A: 0, B: -1, Pass: 10}},
		Branches: []heat.Branch{{Up: -1, Open: 100}},
		Coolers:  []heat.Cooler{{Room: 0, Branch: 0, Gain: 50, Carry: 4, Supply: 18000}},
	}
	return h, []int{22000}, heat.Case{Load: []int{100000}, Out: 20000, Pump: 100}
}

// plain returns a hall of rooms without walls, branches or coolers.
func plain(l ...heat.Room) heat.Hall { return heat.Hall{Rooms: l} }

// alone returns a class that has just one case.
func alone(c heat.Case) heat.Class { return heat.Class{Low: c, High: c} }

// copied returns an equal hall that shares no memory with h.
func copied(h heat.Hall) heat.Hall {
	return heat.Hall{
		Rooms:    slices.Clone(h.Rooms),
		Walls:    slices.Clone(h.Walls),
		Branches: slices.Clone(h.Branches),
		Coolers:  slices.Clone(h.Coolers),
	}
}

// copiedCase returns an equal case that shares no memory with c.
func copiedCase(c heat.Case) heat.Case {
	c.Load = slices.Clone(c.Load)
	return c
}

// copiedClass returns an equal class that shares no memory with k.
func copiedClass(k heat.Class) heat.Class {
	return heat.Class{Low: copiedCase(k.Low), High: copiedCase(k.High)}
}

// sameHall reports whether two halls are equal.
func sameHall(a, b heat.Hall) bool {
	return slices.Equal(a.Rooms, b.Rooms) && slices.Equal(a.Walls, b.Walls) && slices.Equal(a.Branches, b.Branches) && slices.Equal(a.Coolers, b.Coolers)
}

// sameCase reports whether two cases are equal.
func sameCase(a, b heat.Case) bool {
	return slices.Equal(a.Load, b.Load) && a.Out == b.Out && a.Pump == b.Pump
}

// sameRows reports whether two lists of lists are equal.
func sameRows(a, b [][]int) bool { return slices.EqualFunc(a, b, slices.Equal) }

// greater reports whether a number of a list is greater than that of another one.
func greater(a, b []int) bool {
	for i := range a {
		if a[i] > b[i] {
			return true
		}
	}
	return false
}

// nexted returns the next temperatures, which must have no error.
func nexted(t *testing.T, h heat.Hall, now []int, c heat.Case) []int {
	t.Helper()
	l, e := heat.Next(h, now, c)
	if e != api.OK {
		t.Fatalf("Next: error %d: %+v %v %+v", e, h, now, c)
	}
	return l
}

// downwards returns the greatest number that is at most n / d, for d above 0.
func downwards(n, d int) int {
	return int(new(big.Int).Div(big.NewInt(int64(n)), big.NewInt(int64(d))).Int64())
}

// tellFlow returns the flow of a branch by the chapter's words, from the branch up to the pump.
func tellFlow(h heat.Hall, branch, pump int) int {
	x := h.Branches[branch]
	share := pump
	if branch > 0 {
		sum := 0
		for _, y := range h.Branches {
			if y.Up == x.Up {
				sum += y.Open
			}
		}
		share = 0
		if sum > 0 {
			share = downwards(tellFlow(h, x.Up, pump)*x.Open, sum)
		}
	}
	if share < x.Leak {
		return 0
	}
	return share - x.Leak
}

// tellTaken returns what a cooler takes by the chapter's words.
func tellTaken(h heat.Hall, cooler int, t []int, pump int) int {
	x := h.Coolers[cooler]
	count := 0
	for _, y := range h.Coolers {
		if y.Branch == x.Branch {
			count++
		}
	}
	if t[x.Room] < x.Supply {
		return 0
	}
	return min(x.Gain*(t[x.Room]-x.Supply), downwards(x.Carry*tellFlow(h, x.Branch, pump), count))
}

// tellNext returns the next temperatures by the chapter's words, room by room.
func tellNext(h heat.Hall, t []int, c heat.Case) []int {
	list := make([]int, len(h.Rooms))
	for i, x := range h.Rooms {
		sum := x.Store*t[i] + c.Load[i]
		for _, w := range h.Walls {
			switch {
			case w.A == i && w.B == -1:
				sum += w.Pass * (c.Out - t[i])
			case w.A == i:
				sum += w.Pass * (t[w.B] - t[i])
			case w.B == i:
				sum += w.Pass * (t[w.A] - t[i])
			}
		}
		for k, y := range h.Coolers {
			if y.Room == i {
				sum -= tellTaken(h, k, t, c.Pump)
			}
		}
		list[i] = min(heat.MaxKelvin, downwards(sum, x.Store))
	}
	return list
}

// tellSlope returns the slope of a room by the chapter's words.
func tellSlope(h heat.Hall, room int) int {
	sum := 0
	for _, w := range h.Walls {
		if w.A == room {
			sum += w.Pass
		}
		if w.B == room {
			sum += w.Pass
		}
	}
	for _, y := range h.Coolers {
		if y.Room == room {
			sum += y.Gain
		}
	}
	return sum
}

// from returns a number from low to high.
func from(r *rand.Rand, low, high int) int { return low + r.IntN(high-low+1) }

// world has the temperatures from base to base + 60: a hall of it, and what may happen to it.
type world struct {
	heat.Hall
	base int
}

// randomWorld returns a valid hall with small numbers, so that much is at its limit.
func randomWorld(r *rand.Rand) world {
	w := world{base: []int{0, 0, 20000, heat.MaxKelvin - 60}[r.IntN(4)]}
	rooms := from(r, 1, 4)
	for range from(r, 0, 5) {
		a, b := from(r, 0, rooms-1), from(r, -1, rooms-1)
		if a != b {
			w.Walls = append(w.Walls, heat.Wall{A: a, B: b, Pass: from(r, 0, 6)})
		}
	}
	for i := range from(r, 0, 6) {
		x := heat.Branch{Up: -1, Open: from(r, 0, 4), Leak: from(r, 0, 5) * r.IntN(2)}
		if i > 0 {
			x.Up = from(r, 0, i-1)
		}
		w.Branches = append(w.Branches, x)
	}
	for range from(r, 0, 6) {
		if len(w.Branches) > 0 {
			w.Coolers = append(w.Coolers, heat.Cooler{Room: from(r, 0, rooms-1), Branch: from(r, 0, len(w.Branches)-1), Gain: from(r, 0, 6), Carry: from(r, 0, 9), Supply: w.temperature(r)})
		}
	}
	for i := range rooms {
		store := max(1, tellSlope(w.Hall, i)+from(r, 0, 9)*r.IntN(2))
		w.Rooms = append(w.Rooms, heat.Room{Store: store, Limit: w.temperature(r)})
	}
	return w
}

// temperature returns a temperature of a world.
func (w world) temperature(r *rand.Rand) int { return w.base + from(r, 0, 60) }

// temperatures returns a temperature for each room.
func (w world) temperatures(r *rand.Rand) []int {
	list := make([]int, len(w.Rooms))
	for i := range list {
		list[i] = w.temperature(r)
	}
	return list
}

// happening returns a case.
func (w world) happening(r *rand.Rand) heat.Case {
	c := heat.Case{Load: make([]int, len(w.Rooms)), Out: w.temperature(r), Pump: from(r, 0, 60)}
	for i := range c.Load {
		c.Load[i] = from(r, 0, 150) * r.IntN(2)
	}
	return c
}

// class returns a class.
func (w world) class(r *rand.Rand) heat.Class {
	a, b := w.happening(r), w.happening(r)
	k := alone(a)
	k.Low.Load, k.High.Load = sorted(a.Load, b.Load)
	k.Low.Out, k.High.Out = min(a.Out, b.Out), max(a.Out, b.Out)
	k.Low.Pump, k.High.Pump = max(a.Pump, b.Pump), min(a.Pump, b.Pump)
	return k
}

// box returns the corners of a box of temperatures.
func (w world) box(r *rand.Rand) ([]int, []int) { return sorted(w.temperatures(r), w.temperatures(r)) }

// sorted returns two lists that have the lesser and the greater numbers of two.
func sorted(a, b []int) (low, high []int) {
	for i := range a {
		low, high = append(low, min(a[i], b[i])), append(high, max(a[i], b[i]))
	}
	return low, high
}

// between returns a list with numbers from those of low to those of high.
func between(r *rand.Rand, low, high []int) []int {
	list := make([]int, len(low))
	for i := range list {
		list[i] = from(r, low[i], high[i])
	}
	return list
}

// member returns a case that belongs to a class.
func member(r *rand.Rand, k heat.Class) heat.Case {
	return heat.Case{Load: between(r, k.Low.Load, k.High.Load), Out: from(r, k.Low.Out, k.High.Out), Pump: from(r, k.High.Pump, k.Low.Pump)}
}
