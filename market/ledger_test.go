package market_test

import (
	"math/rand/v2"
	"slices"
	"testing"

	"switchgear/api"
	"switchgear/market"
)

// ledger calls Ledger and compares.
func ledger(t *testing.T, name string, d market.Day, starts, charge []int, want []market.Row, sums market.Row) {
	t.Helper()
	for _, said := range []int{0, -1, 1 << 40} {
		// What the plan says of its cost does not matter.
		rows, all, e := market.Ledger(d, market.Plan{Starts: starts, Charge: charge, Cost: said})
		if e != api.OK || !slices.Equal(rows, want) || all != sums {
			t.Errorf("%s: %+v %+v %d, not %+v %+v", name, rows, all, e, want, sums)
		}
	}
}

func TestLedger(t *testing.T) {
	d := chapter()
	ledger(t, "example 1", d, nil, []int{2, -2},
		[]market.Row{{Bought: 4, Used: 2, Stored: 2}, {Used: 2, Stored: -2}},
		market.Row{Bought: 4, Used: 4})
	d = flat(4, market.Hour{Buy: 7, Sell: 3, Sun: 5, Carbon: 400, Water: 3})
	for hour := range d.Hours {
		d.Hours[hour].Load = []int{8, 5, 1, 0}[hour]
		d.Hours[hour].Carbon += hour
		d.Hours[hour].Water += hour
	}
	ledger(t, "something is bought, neither, or sold", d, nil, []int{0, 0, 0, 0},
		[]market.Row{
			{Bought: 3, Made: 5, Used: 8, Carbon: 1200, Water: 24},
			{Made: 5, Used: 5, Water: 20},
			{Sold: 4, Made: 5, Used: 1, Water: 5},
			{Sold: 5, Made: 5},
		},
		market.Row{Bought: 3, Sold: 9, Made: 20, Used: 14, Carbon: 1200, Water: 49})
	d.Store = market.Store{Energy: 3, Full: 10, Power: 7}
	ledger(t, "with a store", d, nil, []int{-3, 1, 5, -2},
		[]market.Row{
			{Made: 5, Used: 8, Stored: -3, Water: 24},
			{Bought: 1, Made: 5, Used: 5, Stored: 1, Carbon: 401, Water: 20},
			{Bought: 1, Made: 5, Used: 1, Stored: 5, Carbon: 402, Water: 5},
			{Sold: 7, Made: 5, Stored: -2},
		},
		market.Row{Bought: 2, Sold: 7, Made: 20, Used: 14, Stored: 1, Carbon: 803, Water: 49})
	d.Jobs = []market.Job{{From: 0, To: 4, Hours: 2, Power: 4}, {From: 2, To: 4, Hours: 1, Power: 9}}
	ledger(t, "with jobs", d, []int{1, 2}, []int{0, 0, 0, 0},
		[]market.Row{
			{Bought: 3, Made: 5, Used: 8, Carbon: 1200, Water: 24},
			{Bought: 4, Made: 5, Used: 9, Carbon: 1604, Water: 36},
			{Bought: 9, Made: 5, Used: 14, Carbon: 3618, Water: 70},
			{Sold: 5, Made: 5},
		},
		market.Row{Bought: 16, Sold: 5, Made: 20, Used: 31, Carbon: 6422, Water: 130})
	ledger(t, "one hour", flat(1, market.Hour{Load: 1, Carbon: 2, Water: 3}), nil, []int{0},
		[]market.Row{{Bought: 1, Used: 1, Carbon: 2, Water: 3}},
		market.Row{Bought: 1, Used: 1, Carbon: 2, Water: 3})
	great := market.Row{Bought: 40, Used: 40, Carbon: 400000, Water: 400000}
	ledger(t, "at the limits", flat(24, market.Hour{Load: 40, Carbon: 10000, Water: 10000}), []int{}, make([]int, 24),
		slices.Repeat([]market.Row{great}, 24),
		market.Row{Bought: 960, Used: 960, Carbon: 9600000, Water: 9600000})
	sun := market.Row{Sold: 40, Made: 40}
	ledger(t, "all is sold", flat(24, market.Hour{Sun: 40, Carbon: 10000, Water: 10000}), nil, make([]int, 24),
		slices.Repeat([]market.Row{sun}, 24),
		market.Row{Sold: 960, Made: 960})
}

// TestLedgerRandom compares with the chapter's words; what is bought and made is what is sold, used and stored.
func TestLedgerRandom(t *testing.T) {
	r := rand.New(rand.NewPCG(10, 7))
	met := [3]int{}
	for range 3000 {
		d, p := promised(r, 5)
		var want []market.Row
		var sums market.Row
		cost, greatest := 0, 0
		for hour, charge := range p.Charge {
			used := tellUsed(d, p.Starts, hour)
			bought, sold := tellTrade(used + charge - d.Hours[hour].Sun)
			x := market.Row{bought, sold, d.Hours[hour].Sun, used, charge, d.Hours[hour].Carbon * bought, d.Hours[hour].Water * used}
			want = append(want, x)
			sums = market.Row{
				sums.Bought + x.Bought, sums.Sold + x.Sold, sums.Made + x.Made, sums.Used + x.Used, sums.Stored + x.Stored,
				sums.Carbon + x.Carbon, sums.Water + x.Water,
			}
			cost += bought*d.Hours[hour].Buy - sold*d.Hours[hour].Sell
			greatest = max(greatest, bought)
			switch {
			case bought > 0:
				met[0]++
			case sold > 0:
				met[1]++
			default:
				met[2]++
			}
		}
		ledger(t, "random", d, p.Starts, p.Charge, want, sums)
		rows, all, _ := market.Ledger(d, p)
		for _, x := range append(rows, all) {
			if x.Bought+x.Made != x.Sold+x.Used+x.Stored {
				t.Fatalf("%+v %+v: %+v does not balance", d, p, x)
			}
		}
		if n, e := market.Cost(d, p); e != api.OK || n != cost+d.Peak*greatest {
			t.Fatalf("%+v %+v: the ledger costs %d, not %d", d, p, cost+d.Peak*greatest, n)
		}
	}
	if slices.Min(met[:]) < 1000 {
		t.Error("met:", met)
	}
}
