package bank_test

import (
	"math"
	"math/rand/v2"
	"slices"
	"testing"

	"switchgear/api"
	"switchgear/bank"
)

// played is a play with what comes of it. A trace of nil is not compared.
type played struct {
	name  string
	bank  bank.Bank
	load  []bank.Span
	fails []int
	want  bank.Result
	trace [][]int
}

// check plays, and compares results and traces.
func (c played) check(t *testing.T) {
	t.Helper()
	x, e := bank.Run(c.bank, c.load, c.fails)
	if e != api.OK || !sameResult(x, c.want) {
		t.Errorf("%s: %+v %d, not %+v", c.name, x, e, c.want)
	}
	l, e := bank.Trace(c.bank, c.load, c.fails)
	if e != api.OK || c.trace != nil && !sameRows(l, c.trace) {
		t.Errorf("%s: trace %v %d, not %v", c.name, l, e, c.trace)
	}
}

func TestRunOfChapter(t *testing.T) {
	b, load := chapter()
	for _, c := range []played{
		{"no fail", b, load, []int{0}, bank.Result{Dark: -1, Energy: []int{300}, Burnt: []int{5300}, Served: 6000}, nil},
		{"one fail", b, load, []int{1}, bank.Result{Dark: 10, Energy: []int{0}, Burnt: []int{0}, Served: 1000}, [][]int{{900}, {800}, {700}, {600}, {500}, {400}, {300}, {200}, {100}, {0}}},
		{"all fail", b, load, []int{2}, bank.Result{Dark: 10, Energy: []int{0}, Burnt: []int{0}, Served: 1000}, nil},
		{"11 seconds", b, []bank.Span{{Seconds: 11, Power: 100}}, []int{0}, bank.Result{Dark: -1, Energy: []int{300}, Burnt: []int{400}, Served: 1100}, [][]int{{900}, {800}, {700}, {600}, {500}, {420}, {360}, {320}, {300}, {300}, {300}}},
	} {
		c.check(t)
	}
}

func TestDark(t *testing.T) {
	battery := cells(bank.Battery{Energy: 500, Full: 500, Power: 100})
	none := bank.Bank{}
	for _, c := range []played{
		{"in second 0", battery, []bank.Span{{Seconds: 5, Power: 101}}, nil, bank.Result{Dark: 0, Energy: []int{500}}, [][]int{}},
		{"in a later one", battery, []bank.Span{{Seconds: 9, Power: 100}}, nil, bank.Result{Dark: 5, Energy: []int{0}, Served: 500}, [][]int{{400}, {300}, {200}, {100}, {0}}},
		{"in the last one", battery, []bank.Span{{Seconds: 6, Power: 100}}, nil, bank.Result{Dark: 5, Energy: []int{0}, Served: 500}, [][]int{{400}, {300}, {200}, {100}, {0}}},
		{"never", battery, []bank.Span{{Seconds: 5, Power: 100}}, nil, bank.Result{Dark: -1, Energy: []int{0}, Served: 500}, [][]int{{400}, {300}, {200}, {100}, {0}}},
		{"only a part is there", battery, []bank.Span{{Seconds: 9, Power: 90}}, nil, bank.Result{Dark: 5, Energy: []int{50}, Served: 450}, [][]int{{410}, {320}, {230}, {140}, {50}}},
		{"it would be served later", battery, []bank.Span{{Seconds: 1, Power: 1}, {Seconds: 1, Power: 101}, {Seconds: 1, Power: 1}}, nil, bank.Result{Dark: 1, Energy: []int{499}, Served: 1}, [][]int{{499}}},
		{"no battery, no generator", none, []bank.Span{{Seconds: 2, Power: 1}}, nil, bank.Result{Dark: 0}, [][]int{}},
		{"no battery, no generator, no power", none, []bank.Span{{Seconds: 2}}, nil, bank.Result{Dark: -1}, [][]int{{}, {}}},
		{"no span", battery, nil, nil, bank.Result{Dark: -1, Energy: []int{500}}, [][]int{}},
		{"nothing at all", none, nil, nil, bank.Result{Dark: -1}, [][]int{}},
		{"an empty battery", cells(bank.Battery{Full: 9, Power: 9}), []bank.Span{{Seconds: 1, Power: 1}}, nil, bank.Result{Dark: 0, Energy: []int{0}}, [][]int{}},
		{"a battery without power", cells(bank.Battery{Energy: 9, Full: 9}), []bank.Span{{Seconds: 1, Power: 1}}, nil, bank.Result{Dark: 0, Energy: []int{9}}, [][]int{}},
		{
			"nothing of the dark second has happened",
			bank.Bank{Batteries: []bank.Battery{{Energy: 150, Full: 150, Power: 100}, {Energy: 29, Full: 90, Power: 100, Charge: 5}}, Generators: []bank.Generator{steady(10)}},
			[]bank.Span{{Seconds: 3, Power: 100}},
			[]int{0},
			bank.Result{Dark: 1, Energy: []int{60, 29}, Burnt: []int{10}, Served: 100},
			[][]int{{60, 29}},
		},
	} {
		c.check(t)
	}
}

func TestGenerators(t *testing.T) {
	// All that a generator gives goes into the battery, where it can be seen.
	idle := []bank.Span{{Seconds: 6}}
	for _, c := range []struct {
		name  string
		g     bank.Generator
		fails int
		want  []int
	}{
		{"steps of Ramp", bank.Generator{Power: 50, Ramp: 20, Tries: 1}, 0, []int{20, 60, 110, 160, 210, 260}},
		{"steps that reach Power", bank.Generator{Power: 60, Ramp: 20, Tries: 1}, 0, []int{20, 60, 120, 180, 240, 300}},
		{"Ramp above Power", bank.Generator{Power: 5, Ramp: 20, Tries: 1}, 0, []int{5, 10, 15, 20, 25, 30}},
		{"Ramp 0", bank.Generator{Power: 50, Tries: 1}, 0, make([]int, 6)},
		{"Power 0", bank.Generator{Ramp: 50, Tries: 1}, 0, make([]int, 6)},
		{"Delay", bank.Generator{Power: 50, Ramp: 30, Delay: 2, Tries: 1}, 0, []int{0, 0, 30, 80, 130, 180}},
		{"Delay, Pause, a fail", bank.Generator{Power: 50, Ramp: 30, Delay: 1, Pause: 2, Tries: 2}, 1, []int{0, 0, 0, 0, 30, 80}},
		{"Delay 0, a fail", bank.Generator{Power: 50, Ramp: 30, Pause: 3, Tries: 2}, 1, []int{0, 0, 0, 30, 80, 130}},
		{"Pause 0, two fails", bank.Generator{Power: 50, Ramp: 30, Delay: 1, Tries: 3}, 2, []int{0, 0, 0, 30, 80, 130}},
		{"Delay and Pause 0, four fails", bank.Generator{Power: 50, Ramp: 30, Tries: 5}, 4, []int{30, 80, 130, 180, 230, 280}},
		{"all attempts fail", bank.Generator{Power: 50, Ramp: 30, Tries: 5}, 5, make([]int, 6)},
		{"the only attempt fails", bank.Generator{Power: 50, Ramp: 30, Tries: 1}, 1, make([]int, 6)},
		{"it would run after the load", bank.Generator{Power: 50, Ramp: 30, Delay: 6, Tries: 1}, 0, make([]int, 6)},
		{"it runs in the last second", bank.Generator{Power: 50, Ramp: 30, Delay: 5, Tries: 1}, 0, []int{0, 0, 0, 0, 0, 30}},
	} {
		b := bank.Bank{Batteries: []bank.Battery{{Full: 10000, Charge: 1000}}, Generators: []bank.Generator{c.g}}
		var trace [][]int
		for _, n := range c.want {
			trace = append(trace, []int{n})
		}
		last := c.want[5:]
		played{c.name, b, idle, []int{c.fails}, bank.Result{Dark: -1, Energy: last, Burnt: last}, trace}.check(t)
	}
}

func TestOrder(t *testing.T) {
	second := func(power int) []bank.Span { return []bank.Span{{Seconds: 1, Power: power}} }
	three := []bank.Battery{{Energy: 900, Full: 900, Power: 30}, {Energy: 50, Full: 900, Power: 60}, {Energy: 900, Full: 900, Power: 40}}
	charged := []bank.Battery{{Full: 900, Charge: 25}, {Energy: 90, Full: 100, Charge: 25}, {Full: 900, Charge: 40}}
	engines := []bank.Generator{steady(50), steady(30), steady(40)}
	for _, c := range []played{
		{"the first battery gives", cells(three...), second(29), nil, bank.Result{Dark: -1, Energy: []int{871, 50, 900}, Served: 29}, nil},
		{"at its Power", cells(three...), second(31), nil, bank.Result{Dark: -1, Energy: []int{870, 49, 900}, Served: 31}, nil},
		{"at its energy", cells(three...), second(100), nil, bank.Result{Dark: -1, Energy: []int{870, 0, 880}, Served: 100}, nil},
		{"all that there is", cells(three...), second(120), nil, bank.Result{Dark: -1, Energy: []int{870, 0, 860}, Served: 120}, nil},
		{"one more than that", cells(three...), second(121), nil, bank.Result{Dark: 0, Energy: []int{900, 50, 900}}, nil},
		{"the first generator gives", bank.Bank{Generators: engines}, second(50), make([]int, 3), bank.Result{Dark: -1, Burnt: []int{50, 0, 0}, Served: 50}, nil},
		{"and the second one", bank.Bank{Generators: engines}, second(79), make([]int, 3), bank.Result{Dark: -1, Burnt: []int{50, 29, 0}, Served: 79}, nil},
		{"and the third one", bank.Bank{Generators: engines}, second(120), make([]int, 3), bank.Result{Dark: -1, Burnt: []int{50, 30, 40}, Served: 120}, nil},
		{"one that does not run", bank.Bank{Generators: engines}, second(79), []int{0, 1, 0}, bank.Result{Dark: -1, Burnt: []int{50, 0, 29}, Served: 79}, nil},
		{"generators before batteries", bank.Bank{Batteries: three, Generators: engines}, second(125), make([]int, 3), bank.Result{Dark: -1, Energy: []int{895, 50, 900}, Burnt: []int{50, 30, 40}, Served: 125}, nil},
		{"charged at Charge and Full", bank.Bank{Batteries: charged, Generators: engines}, second(70), make([]int, 3), bank.Result{Dark: -1, Energy: []int{25, 100, 15}, Burnt: []int{50, 30, 40}, Served: 70}, nil},
		{"charged by several generators", bank.Bank{Batteries: charged[:2], Generators: engines}, second(60), make([]int, 3), bank.Result{Dark: -1, Energy: []int{25, 100}, Burnt: []int{50, 30, 15}, Served: 60}, nil},
		{"charged by the first one", bank.Bank{Batteries: charged[:1], Generators: engines}, second(10), make([]int, 3), bank.Result{Dark: -1, Energy: []int{25}, Burnt: []int{35, 0, 0}, Served: 10}, nil},
		{"charged without a load", bank.Bank{Batteries: charged, Generators: engines}, second(0), make([]int, 3), bank.Result{Dark: -1, Energy: []int{25, 100, 40}, Burnt: []int{50, 25, 0}}, nil},
		{"nothing is left", bank.Bank{Batteries: charged, Generators: engines}, second(120), make([]int, 3), bank.Result{Dark: -1, Energy: []int{0, 90, 0}, Burnt: []int{50, 30, 40}, Served: 120}, nil},
		{"full", bank.Bank{Batteries: []bank.Battery{{Energy: 9, Full: 9, Power: 9, Charge: 9}}, Generators: engines}, second(7), make([]int, 3), bank.Result{Dark: -1, Energy: []int{9}, Burnt: []int{7, 0, 0}, Served: 7}, nil},
		{"a charged battery gives later", bank.Bank{Batteries: []bank.Battery{{Full: 9, Power: 9, Charge: 5}}, Generators: engines[:1]}, []bank.Span{{Seconds: 2, Power: 0}, {Seconds: 2, Power: 54}}, []int{0}, bank.Result{Dark: -1, Energy: []int{1}, Burnt: []int{109}, Served: 108}, [][]int{{5}, {9}, {5}, {1}}},
	} {
		c.check(t)
	}
}

func TestSpans(t *testing.T) {
	b := cells(bank.Battery{Energy: 100, Full: 100, Power: 50})
	load := []bank.Span{{Seconds: 2, Power: 1}, {Seconds: 1, Power: 50}, {Seconds: 3}, {Seconds: 1, Power: 2}}
	played{"four spans", b, load, nil, bank.Result{Dark: -1, Energy: []int{46}, Served: 54}, [][]int{{99}, {98}, {48}, {48}, {48}, {48}, {46}}}.check(t)
	// A generator does not care where a span ends.
	b = bank.Bank{Generators: []bank.Generator{{Power: 100, Ramp: 10, Tries: 1}}}
	load = []bank.Span{{Seconds: 1, Power: 10}, {Seconds: 1, Power: 20}, {Seconds: 1, Power: 30}, {Seconds: 1, Power: 41}}
	played{"a ramp", b, load, []int{0}, bank.Result{Dark: 3, Burnt: []int{60}, Served: 60}, [][]int{{}, {}, {}}}.check(t)
}

// TestRunTold compares with a play by the chapter's words.
func TestRunTold(t *testing.T) {
	r := rand.New(rand.NewPCG(6, 1))
	dark, never := 0, 0
	for range 20000 {
		b, load := randomBank(r), randomLoad(r)
		fails := randomFails(r, b)
		want := tell(b, load, fails)
		x := ran(t, b, load, fails)
		l, e := bank.Trace(b, load, fails)
		n, lackError := bank.Lack(b, load, fails)
		if !sameResult(x, want.Result) || e != api.OK || !sameRows(l, want.trace) || lackError != api.OK || n != want.lack {
			t.Fatalf("%+v %v %v: %+v %v %d, not %+v", b, load, fails, x, l, n, want)
		}
		if x.Dark > 0 {
			dark++
		} else if x.Dark < 0 && len(load) > 0 {
			never++
		}
	}
	if min(dark, never) < 3000 {
		t.Error("met:", dark, never)
	}
}

func TestFails(t *testing.T) {
	b, load := chapter()
	b.Generators = append(b.Generators, bank.Generator{Power: 1, Ramp: 1, Tries: 5})
	for _, c := range []struct {
		fails []int
		want  api.Errno
	}{
		{[]int{0, 0}, api.OK},
		{[]int{2, 5}, api.OK},
		{[]int{3, 5}, api.ErrArg},
		{[]int{2, 6}, api.ErrArg},
		{[]int{-1, 0}, api.ErrArg},
		{[]int{0, -1}, api.ErrArg},
		{[]int{math.MaxInt, 0}, api.ErrArg},
		{[]int{0, math.MinInt}, api.ErrArg},
		{nil, api.ErrArg},
		{[]int{}, api.ErrArg},
		{[]int{0}, api.ErrArg},
		{[]int{0, 0, 0}, api.ErrArg},
	} {
		same(t, c.want, runErrors(t, b, load, c.fails), c.fails)
	}
	b.Generators = nil
	for _, fails := range [][]int{nil, {}} {
		same(t, api.OK, runErrors(t, b, load, fails), fails)
	}
	same(t, api.ErrArg, runErrors(t, b, load, []int{0}), "no generator")
}

// same checks that all errors are the one that is wanted.
func same(t *testing.T, want api.Errno, errors []api.Errno, of any) {
	t.Helper()
	if slices.ContainsFunc(errors, func(e api.Errno) bool { return e != want }) {
		t.Errorf("%+v: %v, not %d", of, errors, want)
	}
}

// runErrors returns the errors of Run, Trace and Lack. With an error every other result must be zero.
func runErrors(t *testing.T, b bank.Bank, load []bank.Span, fails []int) []api.Errno {
	t.Helper()
	x, run := bank.Run(b, load, fails)
	l, trace := bank.Trace(b, load, fails)
	n, lack := bank.Lack(b, load, fails)
	if run != api.OK && !sameResult(x, bank.Result{}) || trace != api.OK && len(l) > 0 || lack != api.OK && n != 0 {
		t.Errorf("results with errors: %+v %d, %v %d, %d %d", x, run, l, trace, n, lack)
	}
	return []api.Errno{run, trace, lack}
}
