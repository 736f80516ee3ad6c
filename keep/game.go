package keep

import "slices"

// fits reports whether a game has not too many and not too few states, controls and shocks.
func (g Game) fits() bool {
	return within(g.States, 1, MaxStates) && within(g.Controls, 1, MaxChoices) && within(g.Shocks, 1, MaxChoices)
}

// hasState reports whether a game has a state.
func (g Game) hasState(state int) bool { return within(state, 0, g.States-1) }

// hasControl reports whether a game has a control.
func (g Game) hasControl(control int) bool { return within(control, 0, g.Controls-1) }

// hasShock reports whether a game has a shock.
func (g Game) hasShock(shock int) bool { return within(shock, 0, g.Shocks-1) }

// canFollow reports whether a number of Next is allowed.
func (g Game) canFollow(state int) bool { return state == disaster || g.hasState(state) }

// after returns what follows a state with a control, shock by shock. It is a part of Next.
func (g Game) after(state, control int) []int {
	first := (state*g.Controls + control) * g.Shocks
	return g.Next[first : first+g.Shocks]
}

// isOver reports whether a state is a disaster, or not good.
func (g Game) isOver(state int) bool { return state == disaster || !g.Good[state] }

// leastControl returns the least control with which something is true in a state, or none.
func (g Game) leastControl(state int, is func(state, control int) bool) int {
	for control := range g.Controls {
		if is(state, control) {
			return control
		}
	}
	return none
}

// sizes returns a game that has only the numbers of states, controls and shocks of a product.
func sizes(a, b Game) Game {
	return Game{States: a.States * b.States, Controls: a.Controls * b.Controls, Shocks: a.Shocks * b.Shocks}
}

// product returns the game in which two are played at once.
func product(a, b Game) Game {
	g := sizes(a, b)
	both := func(i, k int) int {
		if i == disaster || k == disaster {
			return disaster
		}
		return i*b.States + k
	}
	for state := range g.States {
		i, k := state/b.States, state%b.States
		g.Good = append(g.Good, a.Good[i] && b.Good[k])
		for control := range g.Controls {
			for _, x := range a.after(i, control/b.Controls) {
				for _, y := range b.after(k, control%b.Controls) {
					g.Next = append(g.Next, both(x, y))
				}
			}
		}
	}
	return g
}

// without returns a game without a control.
func without(g Game, control int) Game {
	less := Game{States: g.States, Controls: g.Controls - 1, Shocks: g.Shocks, Good: slices.Clone(g.Good)}
	for state := range g.States {
		for other := range g.Controls {
			if other != control {
				less.Next = append(less.Next, g.after(state, other)...)
			}
		}
	}
	return less
}

// within reports whether n is from low to high.
func within(n, low, high int) bool { return n >= low && n <= high }

// all reports whether each element of a list is right.
func all[T any](list []T, right func(T) bool) bool {
	return !slices.ContainsFunc(list, func(x T) bool { return !right(x) })
}
