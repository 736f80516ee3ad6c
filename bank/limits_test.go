package bank_test

import (
	"slices"
	"testing"

	"switchgear/api"
	"switchgear/bank"
)

// great returns a bank and a load at all their limits.
func great() (bank.Bank, []bank.Span) {
	battery := bank.Battery{Energy: bank.MaxEnergy, Full: bank.MaxEnergy, Power: bank.MaxPower, Charge: bank.MaxPower}
	generator := bank.Generator{Power: bank.MaxPower, Ramp: bank.MaxPower, Delay: bank.MaxTime, Pause: bank.MaxTime, Tries: 5}
	load := slices.Repeat([]bank.Span{{Seconds: 312, Power: bank.MaxPower}}, 64)
	load[63].Seconds += bank.MaxSeconds - 64*312
	return bank.Bank{Batteries: slices.Repeat([]bank.Battery{battery}, 8), Generators: slices.Repeat([]bank.Generator{generator}, 6)}, load
}

func TestGreatBank(t *testing.T) {
	b, load := great()
	fails := []int{4, 3, 2, 1, 0, 5}
	x, e := bank.Run(b, load, fails)
	// The last generator but one runs from second 3600 on, the one before it from second 10800 on, the one before that from second 18000 on:
	// the first battery serves until then, and later the last one of two that run charges it.
	want := bank.Result{
		Dark:   -1,
		Energy: slices.Repeat([]int{bank.MaxEnergy}, 8),
		Burnt:  []int{0, 0, 2000 * bank.MaxPower, 7200 * bank.MaxPower, (7200 + 3600) * bank.MaxPower, 0},
		Served: bank.MaxSeconds * bank.MaxPower,
	}
	if e != api.OK || !sameResult(x, want) {
		t.Errorf("%+v %d, not %+v", x, e, want)
	}
	l, e := bank.Trace(b, load, fails)
	if e != api.OK || len(l) != bank.MaxSeconds || l[3599][0] != bank.MaxEnergy-3600*bank.MaxPower || !slices.Equal(l[bank.MaxSeconds-1], x.Energy) {
		t.Error(len(l), e)
	}
	if n, e := bank.Lack(bank.Bank{}, load, nil); n != bank.MaxSeconds*bank.MaxPower || e != api.OK {
		t.Error(n, e)
	}
}

func TestLoads(t *testing.T) {
	spans := func(count, seconds int) []bank.Span {
		return slices.Repeat([]bank.Span{{Seconds: seconds, Power: 1}}, count)
	}
	b := cells(bank.Battery{Energy: bank.MaxEnergy, Full: bank.MaxEnergy, Power: bank.MaxPower})
	for _, c := range []struct {
		name string
		load []bank.Span
		want api.Errno
	}{
		{"no span", nil, api.OK},
		{"no span", []bank.Span{}, api.OK},
		{"64 spans", spans(64, 1), api.OK},
		{"65 spans", spans(65, 1), api.ErrMany},
		{"65 spans, all of them wrong", spans(65, 0), api.ErrMany},
		{"500 spans that are too long", spans(500, 3600), api.ErrMany},
		{"a second", spans(1, 1), api.OK},
		{"none", spans(1, 0), api.ErrRange},
		{"less than none", spans(1, -1), api.ErrRange},
		{"3600 seconds", spans(1, 3600), api.OK},
		{"3601 seconds", spans(1, 3601), api.ErrRange},
		{"20000 seconds", append(spans(5, 3600), spans(1, 2000)...), api.OK},
		{"20001 seconds", append(spans(5, 3600), spans(1, 2001)...), api.ErrTime},
		{"20000 seconds in 50 spans", spans(50, 400), api.OK},
		{"64 spans of 313 seconds", spans(64, 313), api.ErrTime},
		{"64 spans of 3600 seconds", spans(64, 3600), api.ErrTime},
		{"too long, and one span is wrong", append(spans(6, 3600), bank.Span{Seconds: 1, Power: -1}), api.ErrRange},
		{"too long, and one span is negative", append(spans(6, 3600), bank.Span{Seconds: -3600, Power: 1}), api.ErrRange},
		{"power 0", []bank.Span{{Seconds: 1}}, api.OK},
		{"power below 0", []bank.Span{{Seconds: 1, Power: -1}}, api.ErrRange},
		{"the greatest power", []bank.Span{{Seconds: 1, Power: bank.MaxPower}}, api.OK},
		{"one more", []bank.Span{{Seconds: 1, Power: bank.MaxPower + 1}}, api.ErrRange},
		{"the last one is wrong", append(spans(3, 1), bank.Span{Seconds: 1, Power: bank.MaxPower + 1}), api.ErrRange},
	} {
		same(t, c.want, runErrors(t, b, c.load, nil), c.name)
		same(t, c.want, searchErrors(t, b, c.load, 0), c.name)
	}
	for power, want := range map[int]api.Errno{0: api.OK, bank.MaxPower: api.OK, bank.MaxPower + 1: api.ErrRange, -1: api.ErrRange} {
		same(t, want, holdErrors(t, b, power, 0), power)
	}
}
