package bank_test

import (
	"math"
	"testing"

	"switchgear/api"
	"switchgear/bank"
)

// lacks checks what Lack returns.
func lacks(t *testing.T, name string, b bank.Bank, load []bank.Span, fails []int, want int) {
	t.Helper()
	if n, e := bank.Lack(b, load, fails); n != want || e != api.OK {
		t.Errorf("%s: %d %d, not %d", name, n, e, want)
	}
}

// leastIs checks what Least returns.
func leastIs(t *testing.T, name string, b bank.Bank, load []bank.Span, most, want int) {
	t.Helper()
	if n, e := bank.Least(b, load, most); n != want || e != api.OK {
		t.Errorf("%s: most %d: %d %d, not %d", name, most, n, e, want)
	}
}

func TestLackOfChapter(t *testing.T) {
	b, load := chapter()
	for fails, want := range []int{0, 400, 5000} {
		lacks(t, "chapter", b, load, []int{fails}, want)
		leastIs(t, "chapter", b, load, fails, want)
	}
	leastIs(t, "chapter", b, load, math.MaxInt, 5000)
}

func TestLack(t *testing.T) {
	battery := func(energy, power, charge int) []bank.Battery {
		return []bank.Battery{{Energy: energy, Full: 100, Power: power, Charge: charge}}
	}
	up := []bank.Span{{Seconds: 2, Power: 30}, {Seconds: 2, Power: 5}, {Seconds: 1, Power: 30}, {Seconds: 1}, {Seconds: 1, Power: 31}}
	for _, c := range []struct {
		name  string
		bank  bank.Bank
		load  []bank.Span
		fails []int
		want  int
	}{
		{"nothing is there", bank.Bank{}, up, nil, 131},
		{"no span", bank.Bank{}, nil, nil, 0},
		{"no power", bank.Bank{}, []bank.Span{{Seconds: 9}}, nil, 0},
		{"enough", cells(battery(100, 50, 0)...), []bank.Span{{Seconds: 2, Power: 50}}, nil, 0},
		{"all but one", cells(battery(99, 50, 0)...), []bank.Span{{Seconds: 2, Power: 50}}, nil, 1},
		{"a battery at its Power", cells(battery(100, 20, 0)...), up, nil, 10 + 10 + 0 + 0 + 10 + 0 + 11},
		{"a battery at its energy", cells(battery(45, 30, 0)...), up, nil, 0 + 15 + 5 + 5 + 30 + 0 + 31},
		{"a generator at its Power", bank.Bank{Generators: []bank.Generator{steady(10)}}, up, []int{0}, 20 + 20 + 0 + 0 + 20 + 0 + 21},
		{"a generator that fails", bank.Bank{Generators: []bank.Generator{steady(10)}}, up, []int{1}, 131},
		{"a battery that is charged again after dark seconds", bank.Bank{Batteries: battery(5, 30, 3), Generators: []bank.Generator{steady(10)}}, up, []int{0}, 15 + 20 + 0 + 0 + 14 + 0 + 18},
	} {
		lacks(t, c.name, c.bank, c.load, c.fails, c.want)
	}
}

func TestLeast(t *testing.T) {
	// The second generator is worse to lose than the first one, but both of them are worst.
	b := bank.Bank{Generators: []bank.Generator{steady(10), steady(30), {Power: 5, Ramp: 5, Delay: 1, Pause: 2, Tries: 3}}}
	load := []bank.Span{{Seconds: 8, Power: 45}}
	for most, want := range []int{5, 5 + 240, 5 + 80 + 240, 80 + 240 + 4*5, 80 + 240 + 7*5, 80 + 240 + 8*5, 80 + 240 + 8*5} {
		leastIs(t, "three generators", b, load, most, want)
	}
	leastIs(t, "enough", b, []bank.Span{{Seconds: 8}}, 9, 0)
	leastIs(t, "no span", b, nil, 9, 0)
	leastIs(t, "nothing is there", bank.Bank{}, load, 9, 360)
}
