package bank

// play is a valid bank that serves a load, second by second.
type play struct {
	cells   []cell
	engines []engine
	dark    int // the second that was dark, or never
	served  int
	lacking int
}

// cell is a battery at work.
type cell struct {
	Battery
	held int // the energy that it has now
}

// engine is a generator at work.
type engine struct {
	Generator
	since int // the second from which on it runs, or never
	burnt int // what it has given so far
	spare int // what it can still give in the present second
}

// newPlay returns a bank at the beginning of a play with a list of fails.
func newPlay(b Bank, fails []int) *play {
	p := &play{dark: never}
	for _, x := range b.Batteries {
		p.cells = append(p.cells, cell{Battery: x, held: x.Energy})
	}
	for i, x := range b.Generators {
		p.engines = append(p.engines, engine{Generator: x, since: start(x, fails[i])})
	}
	return p
}

// start returns the second from which on a generator runs after so many fails, or never.
func start(g Generator, fails int) int {
	if fails == g.Tries {
		return never
	}
	return (fails+1)*g.Delay + fails*g.Pause
}

// result plays a load until a second is dark, and returns what has come of it.
func result(b Bank, load []Span, fails []int) Result {
	p := newPlay(b, fails)
	through(load, p.second)
	return Result{Dark: p.dark, Energy: p.energies(), Burnt: p.burnt(), Served: p.served}
}

// lack plays all of a load, and returns what was lacking.
func lack(b Bank, load []Span, fails []int) int {
	p := newPlay(b, fails)
	through(load, p.anyway)
	return p.lacking
}

// through plays the seconds of a load until one of them ends the play.
func through(load []Span, second func(t, power int) bool) {
	t := 0
	for _, x := range load {
		for range x.Seconds {
			if !second(t, x.Power) {
				return
			}
			t++
		}
	}
}

// second plays a second and reports whether it was served: in a dark one nothing happens.
func (p *play) second(t, power int) bool {
	p.ready(t)
	if p.most() < power {
		p.dark = t
		return false
	}
	p.serve(power)
	return true
}

// anyway plays a second even if it is dark: what is lacking is added up.
func (p *play) anyway(t, power int) bool {
	p.ready(t)
	p.lacking += p.serve(power)
	return true
}

// ready sets what the generators can give in a second.
func (p *play) ready(t int) {
	for i := range p.engines {
		x := &p.engines[i]
		x.spare = 0
		if x.since != never && t >= x.since {
			x.spare = min(x.Power, x.Ramp*(t-x.since+1))
		}
	}
}

// most returns the most that generators and batteries together can give in the present second.
func (p *play) most() int {
	sum := 0
	for _, x := range p.engines {
		sum += x.spare
	}
	for _, x := range p.cells {
		sum += x.able()
	}
	return sum
}

// serve gives a load what it can in the present second, and returns what is lacking.
func (p *play) serve(power int) int {
	need := power - p.draw(power)
	for i := range p.cells {
		given := min(p.cells[i].able(), need)
		p.cells[i].held -= given
		need -= given
	}
	// If batteries had to give, or something is lacking, the generators can give no more, so that none is charged.
	for i := range p.cells {
		p.cells[i].held += p.draw(p.cells[i].room())
	}
	p.served += power - need
	return need
}

// able returns the most that a battery can give in a second.
func (x cell) able() int { return min(x.Power, x.held) }

// room returns the most that a battery can take in a second.
func (x cell) room() int { return min(x.Charge, x.Full-x.held) }

// draw lets the generators give at most so much, in their order, and returns what they have given.
func (p *play) draw(most int) int {
	given := 0
	for i := range p.engines {
		x := &p.engines[i]
		part := min(x.spare, most-given)
		x.spare -= part
		x.burnt += part
		given += part
	}
	return given
}

// energies returns what each battery has.
func (p *play) energies() []int {
	list := make([]int, len(p.cells))
	for i, x := range p.cells {
		list[i] = x.held
	}
	return list
}

// burnt returns what each generator has given.
func (p *play) burnt() []int {
	list := make([]int, len(p.engines))
	for i, x := range p.engines {
		list[i] = x.burnt
	}
	return list
}
