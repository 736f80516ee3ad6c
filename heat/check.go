package heat

import (
	"slices"

	"switchgear/api"
)

// maxOpen and maxCarry are limits that have no name in the chapter.
const (
	maxOpen  = 100
	maxCarry = 1000
)

// Check reports whether a hall is valid.
func Check(h Hall) api.Errno {
	if !within(len(h.Rooms), 1, MaxRooms) || len(h.Walls) > MaxWalls || len(h.Branches) > MaxBranches || len(h.Coolers) > MaxCoolers {
		return api.ErrMany
	}
	if !all(h.Rooms, isRoom) || !all(h.Walls, h.isWall) || !areBranches(h.Branches) || !all(h.Coolers, h.isCooler) {
		return api.ErrRange
	}
	for i, x := range h.Rooms {
		if slope(h, i) > x.Store {
			return api.ErrHeat
		}
	}
	return api.OK
}

// isRoom reports whether a room is valid.
func isRoom(x Room) bool { return within(x.Store, 1, MaxStore) && isTemperature(x.Limit) }

// isWall reports whether a hall may have a wall.
func (h Hall) isWall(x Wall) bool {
	return h.hasRoom(x.A) && (x.B == outside || h.hasRoom(x.B) && x.B != x.A) && within(x.Pass, 0, MaxPass)
}

// areBranches reports whether a hall may have a list of branches.
func areBranches(list []Branch) bool {
	for i, x := range list {
		if !isBranch(i, x) {
			return false
		}
	}
	return true
}

// isBranch reports whether a branch may stand at an index: each one but the first hangs on an earlier one.
func isBranch(i int, x Branch) bool {
	hangs := within(x.Up, 0, i-1)
	if i == 0 {
		hangs = x.Up == none
	}
	return hangs && within(x.Open, 0, maxOpen) && isFlow(x.Leak)
}

// isCooler reports whether a hall may have a cooler.
func (h Hall) isCooler(x Cooler) bool {
	return h.hasRoom(x.Room) &&
		within(x.Branch, 0, len(h.Branches)-1) &&
		within(x.Gain, 0, MaxPass) &&
		within(x.Carry, 0, maxCarry) &&
		isTemperature(x.Supply)
}

// hasRoom reports whether a hall has a room.
func (h Hall) hasRoom(room int) bool { return within(room, 0, len(h.Rooms)-1) }

// slope returns the most by which the heat that leaves a room rises with each millikelvin of it.
func slope(h Hall, room int) int {
	sum := 0
	for _, x := range h.Walls {
		if x.A == room || x.B == room {
			sum += x.Pass
		}
	}
	for _, x := range h.Coolers {
		if x.Room == room {
			sum += x.Gain
		}
	}
	return sum
}

// checkNumbers returns the error of lists of temperatures, or of cases, of a valid hall.
func checkNumbers(h Hall, temperatures [][]int, cases []Case) api.Errno {
	if !all(temperatures, h.forRooms) || !all(cases, h.hasLoads) {
		return api.ErrArg
	}
	if !all(temperatures, areTemperatures) || !all(cases, isCase) {
		return api.ErrRange
	}
	return api.OK
}

// checkSecond returns the error of a hall, of temperatures, or of a case.
func checkSecond(h Hall, t []int, c Case) api.Errno {
	if e := Check(h); e != api.OK {
		return e
	}
	return checkNumbers(h, [][]int{t}, []Case{c})
}

// checkClass returns the error of a hall, of a class, or of further cases.
func checkClass(h Hall, k Class, more ...Case) api.Errno {
	if e := Check(h); e != api.OK {
		return e
	}
	if e := checkNumbers(h, nil, append([]Case{k.Low, k.High}, more...)); e != api.OK {
		return e
	}
	if !notAbove(k.Low, k.High) {
		return api.ErrBox
	}
	return api.OK
}

// checkBox returns the error of a hall, of a class, or of a box of temperatures.
func checkBox(h Hall, low, high []int, k Class) api.Errno {
	if e := checkClass(h, k); e != api.OK {
		return e
	}
	if e := checkNumbers(h, [][]int{low, high}, nil); e != api.OK {
		return e
	}
	if !noneAbove(low, high) {
		return api.ErrBox
	}
	return api.OK
}

// hasLoads reports whether a case has a load for each room.
func (h Hall) hasLoads(c Case) bool { return h.forRooms(c.Load) }

// forRooms reports whether a list has one number for each room.
func (h Hall) forRooms(list []int) bool { return len(list) == len(h.Rooms) }

// isCase reports whether the numbers of a case are allowed.
func isCase(c Case) bool { return all(c.Load, isLoad) && isTemperature(c.Out) && isFlow(c.Pump) }

// notAbove reports whether a case heats no room more than another one: a stronger pump cools more.
func notAbove(a, b Case) bool {
	return noneAbove(a.Load, b.Load) && a.Out <= b.Out && a.Pump >= b.Pump
}

// noneAbove reports whether no number of a list is greater than that of another one with the same length.
func noneAbove(a, b []int) bool {
	for i := range a {
		if a[i] > b[i] {
			return false
		}
	}
	return true
}

// areTemperatures reports whether all temperatures of a list are allowed.
func areTemperatures(list []int) bool { return all(list, isTemperature) }

// isTemperature reports whether a temperature is allowed.
func isTemperature(n int) bool { return within(n, 0, MaxKelvin) }

// isFlow reports whether a flow is allowed.
func isFlow(n int) bool { return within(n, 0, MaxFlow) }

// isLoad reports whether a load is allowed.
func isLoad(n int) bool { return within(n, 0, MaxLoad) }

// isTime reports whether a number of seconds is allowed.
func isTime(n int) bool { return within(n, 0, MaxTime) }

// within reports whether n is from low to high.
func within(n, low, high int) bool { return n >= low && n <= high }

// all reports whether each element of a list is right.
func all[T any](list []T, right func(T) bool) bool {
	return !slices.ContainsFunc(list, func(x T) bool { return !right(x) })
}
