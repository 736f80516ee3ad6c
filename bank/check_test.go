package bank_test

import (
	"math"
	"slices"
	"testing"

	"switchgear/api"
	"switchgear/bank"
)

// batteries has batteries with numbers at their limits and beyond.
func batteries() map[bank.Battery]api.Errno {
	most := bank.Battery{Energy: bank.MaxEnergy, Full: bank.MaxEnergy, Power: bank.MaxPower, Charge: bank.MaxPower}
	with := func(change func(x *bank.Battery)) bank.Battery {
		x := most
		change(&x)
		return x
	}
	return map[bank.Battery]api.Errno{
		{}:                     api.OK,
		most:                   api.OK,
		{Full: bank.MaxEnergy}: api.OK,
		{Energy: 7, Full: 7}:   api.OK,
		{Energy: 8, Full: 7}:   api.ErrRange,
		{Energy: 1}:            api.ErrRange,
		{Energy: -1, Full: -1}: api.ErrRange,
		with(func(x *bank.Battery) { x.Energy = -1 }):                 api.ErrRange,
		with(func(x *bank.Battery) { x.Energy = math.MinInt }):        api.ErrRange,
		with(func(x *bank.Battery) { x.Energy++ }):                    api.ErrRange,
		with(func(x *bank.Battery) { x.Full++ }):                      api.ErrRange,
		with(func(x *bank.Battery) { x.Energy++; x.Full++ }):          api.ErrRange,
		with(func(x *bank.Battery) { x.Full = math.MaxInt }):          api.ErrRange,
		with(func(x *bank.Battery) { x.Energy = 0; x.Full = -1 }):     api.ErrRange,
		with(func(x *bank.Battery) { x.Power = -1 }):                  api.ErrRange,
		with(func(x *bank.Battery) { x.Power = bank.MaxPower + 1 }):   api.ErrRange,
		with(func(x *bank.Battery) { x.Charge = -1 }):                 api.ErrRange,
		with(func(x *bank.Battery) { x.Charge = bank.MaxPower + 1 }):  api.ErrRange,
		with(func(x *bank.Battery) { x.Power = 0 }):                   api.OK,
		with(func(x *bank.Battery) { x.Charge = 0 }):                  api.OK,
		with(func(x *bank.Battery) { x.Charge = math.MinInt }):        api.ErrRange,
		with(func(x *bank.Battery) { x.Power = math.MaxInt }):         api.ErrRange,
		with(func(x *bank.Battery) { x.Energy, x.Full = 5000, 4999 }): api.ErrRange,
	}
}

// generators has generators with numbers at their limits and beyond.
func generators() map[bank.Generator]api.Errno {
	most := bank.Generator{Power: bank.MaxPower, Ramp: bank.MaxPower, Delay: bank.MaxTime, Pause: bank.MaxTime, Tries: 5}
	with := func(change func(x *bank.Generator)) bank.Generator {
		x := most
		change(&x)
		return x
	}
	return map[bank.Generator]api.Errno{
		{Tries: 1}: api.OK,
		most:       api.OK,
		{}:         api.ErrRange,
		with(func(x *bank.Generator) { x.Power = -1 }):                api.ErrRange,
		with(func(x *bank.Generator) { x.Power++ }):                   api.ErrRange,
		with(func(x *bank.Generator) { x.Power = 0 }):                 api.OK,
		with(func(x *bank.Generator) { x.Ramp = -1 }):                 api.ErrRange,
		with(func(x *bank.Generator) { x.Ramp++ }):                    api.ErrRange,
		with(func(x *bank.Generator) { x.Ramp = 0 }):                  api.OK,
		with(func(x *bank.Generator) { x.Delay = -1 }):                api.ErrRange,
		with(func(x *bank.Generator) { x.Delay++ }):                   api.ErrRange,
		with(func(x *bank.Generator) { x.Delay = 0 }):                 api.OK,
		with(func(x *bank.Generator) { x.Pause = -1 }):                api.ErrRange,
		with(func(x *bank.Generator) { x.Pause++ }):                   api.ErrRange,
		with(func(x *bank.Generator) { x.Pause = 0 }):                 api.OK,
		with(func(x *bank.Generator) { x.Tries = 0 }):                 api.ErrRange,
		with(func(x *bank.Generator) { x.Tries = -1 }):                api.ErrRange,
		with(func(x *bank.Generator) { x.Tries++ }):                   api.ErrRange,
		with(func(x *bank.Generator) { x.Tries = 1 }):                 api.OK,
		with(func(x *bank.Generator) { x.Delay = math.MaxInt }):       api.ErrRange,
		with(func(x *bank.Generator) { x.Pause = math.MinInt }):       api.ErrRange,
		with(func(x *bank.Generator) { x.Tries = math.MaxInt }):       api.ErrRange,
		with(func(x *bank.Generator) { x.Power, x.Ramp = -1, -1 }):    api.ErrRange,
		with(func(x *bank.Generator) { x.Power = bank.MaxEnergy }):    api.ErrRange,
		with(func(x *bank.Generator) { x.Ramp = math.MinInt }):        api.ErrRange,
		with(func(x *bank.Generator) { x.Delay = bank.MaxTime / 2 }):  api.OK,
		with(func(x *bank.Generator) { x.Pause = bank.MaxTime / 2 }):  api.OK,
		with(func(x *bank.Generator) { x.Delay = bank.MaxSeconds }):   api.ErrRange,
		with(func(x *bank.Generator) { x.Tries = bank.MaxTime }):      api.ErrRange,
		with(func(x *bank.Generator) { x.Delay, x.Pause = 3601, -1 }): api.ErrRange,
	}
}

func TestCheck(t *testing.T) {
	b, _ := chapter()
	for x, want := range batteries() {
		// Wherever a wrong one stands, it counts.
		for place := range 8 {
			l := slices.Repeat(b.Batteries, 8)
			l[place] = x
			if e := bank.Check(bank.Bank{Batteries: l, Generators: b.Generators}); e != want {
				t.Errorf("%+v at %d: %d", x, place, e)
			}
		}
	}
	for x, want := range generators() {
		for place := range 6 {
			l := slices.Repeat(b.Generators, 6)
			l[place] = x
			if e := bank.Check(bank.Bank{Batteries: b.Batteries, Generators: l}); e != want {
				t.Errorf("%+v at %d: %d", x, place, e)
			}
		}
	}
}

func TestCheckMany(t *testing.T) {
	b, _ := chapter()
	wrong := bank.Bank{Batteries: []bank.Battery{{Energy: -1}}, Generators: []bank.Generator{{}}}
	for _, c := range []struct {
		batteries, generators int
		right, wrong          api.Errno
	}{
		{0, 0, api.OK, api.OK},
		{1, 0, api.OK, api.ErrRange},
		{0, 1, api.OK, api.ErrRange},
		{8, 6, api.OK, api.ErrRange},
		{9, 6, api.ErrMany, api.ErrMany},
		{8, 7, api.ErrMany, api.ErrMany},
		{9, 0, api.ErrMany, api.ErrMany},
		{0, 7, api.ErrMany, api.ErrMany},
		{1, 7, api.ErrMany, api.ErrMany},
		{500, 500, api.ErrMany, api.ErrMany},
	} {
		for _, kind := range []struct {
			bank.Bank
			want api.Errno
		}{{b, c.right}, {wrong, c.wrong}} {
			x := bank.Bank{Batteries: slices.Repeat(kind.Batteries, c.batteries), Generators: slices.Repeat(kind.Generators, c.generators)}
			if e := bank.Check(x); e != kind.want {
				t.Errorf("%d batteries, %d generators: %d, not %d", c.batteries, c.generators, e, kind.want)
			}
		}
	}
}

func TestStart(t *testing.T) {
	for _, c := range []struct {
		delay, pause int
		want         []int // by fails
	}{
		{5, 2, []int{5, 12, -1}},
		{5, 2, []int{5, -1}},
		{0, 0, []int{0, 0, 0, 0, 0, -1}},
		{0, 0, []int{0, -1}},
		{0, 3, []int{0, 3, 6, 9, 12, -1}},
		{3, 0, []int{3, 6, 9, -1}},
		{1, 1, []int{1, 3, 5, 7, -1}},
		{bank.MaxTime, bank.MaxTime, []int{3600, 10800, 18000, 25200, 32400, -1}},
	} {
		tries := len(c.want) - 1
		g := bank.Generator{Power: 1, Ramp: 1, Delay: c.delay, Pause: c.pause, Tries: tries}
		for fails, want := range c.want {
			if n, e := bank.Start(g, fails); n != want || e != api.OK {
				t.Errorf("%+v with %d fails: %d %d", g, fails, n, e)
			}
		}
		for _, fails := range []int{-1, tries + 1, math.MinInt, math.MaxInt} {
			if n, e := bank.Start(g, fails); n != 0 || e != api.ErrArg {
				t.Errorf("%+v with %d fails: %d %d", g, fails, n, e)
			}
		}
	}
}

func TestStartOfGenerators(t *testing.T) {
	for g, want := range generators() {
		for _, fails := range []int{0, -1, 6} {
			n, e := bank.Start(g, fails)
			switch {
			case want != api.OK && (n != 0 || e != api.ErrRange):
				t.Errorf("%+v with %d fails: %d %d", g, fails, n, e)
			case want == api.OK && fails == 0 && (n != g.Delay || e != api.OK):
				t.Errorf("%+v: %d %d", g, n, e)
			case want == api.OK && fails != 0 && (n != 0 || e != api.ErrArg):
				t.Errorf("%+v with %d fails: %d %d", g, fails, n, e)
			}
		}
	}
}
