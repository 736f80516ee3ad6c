package heat

import "iter"

// second is a valid hall in a second.
type second struct {
	Hall
	Case
	t []int // the temperatures at its beginning
}

// next returns the temperatures after a second.
func next(h Hall, t []int, c Case) []int { return second{h, c, t}.after() }

// after returns the temperatures after the second.
func (s second) after() []int {
	heat := make([]int, len(s.Rooms))
	for _, bring := range []func(heat []int){s.loads, s.walls, s.coolers} {
		bring(heat)
	}
	list := make([]int, len(s.Rooms))
	for i, x := range s.Rooms {
		// The whole is not below 0, as the slope of a room is at most its Store: so the quotient is rounded down.
		list[i] = min(MaxKelvin, (x.Store*s.t[i]+heat[i])/x.Store)
	}
	return list
}

// loads adds the heat that the loads bring to each room.
func (s second) loads(heat []int) {
	for i, n := range s.Load {
		heat[i] += n
	}
}

// walls adds the heat that the walls bring to each room.
func (s second) walls(heat []int) {
	for _, x := range s.Walls {
		if x.B == outside {
			heat[x.A] += x.Pass * (s.Out - s.t[x.A])
			continue
		}
		n := x.Pass * (s.t[x.B] - s.t[x.A])
		heat[x.A] += n
		heat[x.B] -= n
	}
}

// coolers takes the heat that the coolers take from each room.
func (s second) coolers(heat []int) {
	for i, n := range taken(s.Hall, s.t, s.Pump) {
		heat[s.Coolers[i].Room] -= n
	}
}

// taken returns what each cooler takes.
func taken(h Hall, t []int, pump int) []int {
	flow := flows(h, pump)
	count := make([]int, len(h.Branches))
	for _, x := range h.Coolers {
		count[x.Branch]++
	}
	list := make([]int, len(h.Coolers))
	for i, x := range h.Coolers {
		carried := x.Carry * flow[x.Branch] / count[x.Branch]
		list[i] = min(max(0, x.Gain*(t[x.Room]-x.Supply)), carried)
	}
	return list
}

// flows returns the flows of all branches.
func flows(h Hall, pump int) []int {
	list := make([]int, len(h.Branches))
	open := openings(h)
	var fill func(branch, share int)
	fill = func(branch, share int) {
		left := max(0, share-h.Branches[branch].Leak)
		list[branch] = left
		for i, x := range h.Branches {
			// Where nothing is open, what hangs on a branch stays at 0, and so does all that hangs on that.
			if x.Up == branch && open[branch] > 0 {
				fill(i, left*x.Open/open[branch])
			}
		}
	}
	if len(list) > 0 {
		fill(0, pump)
	}
	return list
}

// openings returns, for each branch, the sum of Open of those that hang on it.
func openings(h Hall) []int {
	list := make([]int, len(h.Branches))
	for _, x := range h.Branches {
		if x.Up != none {
			list[x.Up] += x.Open
		}
	}
	return list
}

// seconds yields the temperatures after each second of some cases, one after the other. Each list is new memory.
func seconds(h Hall, t []int, cases iter.Seq[Case]) iter.Seq[[]int] {
	return func(yield func([]int) bool) {
		now := t
		for c := range cases {
			now = next(h, now, c)
			if !yield(now) {
				return
			}
		}
	}
}

// always yields one case n times.
func always(c Case, n int) iter.Seq[Case] {
	return func(yield func(Case) bool) {
		for range n {
			if !yield(c) {
				return
			}
		}
	}
}

// ride returns the first second of one case after which a room is too hot, 0 if one is at first, and this room; most + 1 and none if there is none.
func ride(h Hall, t []int, c Case, most int) (int, int) {
	n, room := 0, hot(h, t)
	if room != none {
		return n, room
	}
	for after := range seconds(h, t, always(c, most)) {
		n++
		if room = hot(h, after); room != none {
			return n, room
		}
	}
	return most + 1, none
}

// hot returns the least room that has more than its limit, or none.
func hot(h Hall, t []int) int {
	for i, x := range h.Rooms {
		if t[i] > x.Limit {
			return i
		}
	}
	return none
}
