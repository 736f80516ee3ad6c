package keep

import (
	"iter"
	"slices"
)

// certificate is a result for a valid game.
type certificate struct {
	Game
	Result
}

// solve returns the safe set of a valid game with its certificate.
func solve(g Game) Result {
	c := certificate{g, good(g)}
rounds:
	for round := 1; ; round++ {
		switch lost := c.lost(); len(lost) {
		case 0:
			break rounds
		default:
			c.leaveOut(lost, round)
		}
	}
	for state := range c.states() {
		c.Control[state] = c.leastControl(state, c.keeps)
	}
	return c.Result
}

// good returns a result with the good states in: the others have the rank 0.
func good(g Game) Result {
	r := Result{In: slices.Clone(g.Good), Control: slices.Repeat([]int{none}, g.States), Rank: make([]int, g.States)}
	for state := range r.states() {
		r.Rank[state] = none
	}
	return r
}

// states yields the states that are in.
func (r Result) states() iter.Seq[int] {
	return func(yield func(int) bool) {
		for state, in := range r.In {
			if in && !yield(state) {
				return
			}
		}
	}
}

// lost returns the states that are in, but that no control keeps there.
func (c certificate) lost() []int {
	var list []int
	for state := range c.states() {
		if c.leastControl(state, c.keeps) == none {
			list = append(list, state)
		}
	}
	return list
}

// leaveOut leaves states out, with a rank.
func (c certificate) leaveOut(states []int, rank int) {
	for _, state := range states {
		c.In[state], c.Rank[state] = false, rank
	}
}

// isRight reports whether a certificate is right.
func (c certificate) isRight() bool {
	if len(c.In) != c.States || len(c.Control) != c.States || len(c.Rank) != c.States {
		return false
	}
	for state := range c.States {
		if !c.isRightFor(state) {
			return false
		}
	}
	return true
}

// isRightFor reports whether a certificate that has a value for each state is right for one.
func (c certificate) isRightFor(state int) bool {
	control, rank := c.Control[state], c.Rank[state]
	if c.In[state] {
		return c.Good[state] && c.hasControl(control) && c.keeps(state, control) && rank == none
	}
	if control != none || rank < 0 {
		return false
	}
	if rank == 0 {
		return !c.Good[state]
	}
	return c.leastControl(state, c.delays) == none
}

// keeps reports whether a control keeps a state: whether each shock leads to a state that is in.
func (c certificate) keeps(state, control int) bool { return all(c.after(state, control), c.isIn) }

// delays reports whether a control lets no shock lead to a disaster, or to a state that is not in and has a lower rank.
func (c certificate) delays(state, control int) bool {
	return all(c.after(state, control), func(next int) bool { return c.isIn(next) || c.rank(next) >= c.Rank[state] })
}

// isIn reports whether what follows is a state that is in.
func (c certificate) isIn(next int) bool { return next != disaster && c.In[next] }

// rank returns the rank of what follows and is not in: a disaster comes before all states.
func (c certificate) rank(next int) int {
	if next == disaster {
		return none
	}
	return c.Rank[next]
}

// play returns the states that follow a state that is in, shock by shock.
func (c certificate) play(state int, shocks []int) []int {
	list := make([]int, len(shocks))
	for i, shock := range shocks {
		state = c.after(state, c.Control[state])[shock]
		list[i] = state
	}
	return list
}

// force returns the shocks that answer controls in a state that is not in, the states that follow, and whether it has ended with a disaster, or a state that is not good.
func (c certificate) force(state int, controls []int) (shocks, states []int, ended bool) {
	for _, control := range controls {
		if c.isOver(state) {
			break
		}
		shock := c.answer(state, control)
		state = c.after(state, control)[shock]
		shocks, states = append(shocks, shock), append(states, state)
	}
	return shocks, states, c.isOver(state)
}

// answer returns the shock that answers a control in a good state that is not in: if the certificate is right, there is one.
func (c certificate) answer(state, control int) int {
	list := c.after(state, control)
	best := none
	for shock, next := range list {
		if !c.isIn(next) && (best == none || c.rank(next) < c.rank(list[best])) {
			best = shock
		}
	}
	return best
}
