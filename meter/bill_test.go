package meter_test

import (
	"cmp"
	"math/rand/v2"
	"slices"
	"strconv"
	"testing"

	"switchgear/api"
	"switchgear/meter"
)

// bills calls Make and compares, and Total with the use alone.
func bills(t *testing.T, name string, x meter.Tariff, u meter.Use, want meter.Bill) {
	t.Helper()
	if got, e := meter.Make(x, u); e != api.OK || got != want {
		t.Errorf("%s: %+v %d, not %+v", name, got, e, want)
	}
	if l, sum, e := meter.Total(x, []meter.Use{u}); e != api.OK || !slices.Equal(l, []meter.Bill{want}) || sum != want {
		t.Errorf("%s: Total: %+v %+v %d, not %+v", name, l, sum, e, want)
	}
}

// billed compares the error of Make with one that it should be, and that of Total.
func billed(t *testing.T, name string, x meter.Tariff, u meter.Use, want api.Errno) {
	t.Helper()
	if b, e := meter.Make(x, u); e != want || want != api.OK && b != (meter.Bill{}) {
		t.Errorf("%s: %+v %d, not %d", name, b, e, want)
	}
	if l, sum, e := meter.Total(x, []meter.Use{u}); e != want || want != api.OK && (len(l) > 0 || sum != meter.Bill{}) {
		t.Errorf("%s: Total: %+v %+v %d, not %d", name, l, sum, e, want)
	}
}

// tiers returns n tiers.
func tiers(n int) []meter.Tier {
	l := make([]meter.Tier, n)
	for i := range l {
		l[i] = meter.Tier{10 * (i + 1), 5 * (i + 1)}
	}
	return l
}

func TestMake(t *testing.T) {
	x, u := chapter3()
	bills(t, "example 3", x, u, meter.Bill{120, 1300, 260, 1040})
	bills(t, "no use", x, meter.Use{}, meter.Bill{0, 100, 0, 100})
	bills(t, "no use, no value", x, meter.Use{Values: []int{}}, meter.Bill{0, 100, 0, 100})
	bills(t, "no use, but it was not there", x, meter.Use{Out: 30}, meter.Bill{0, 100, 10, 90})
	bills(t, "nothing is paid", flat(0, 0, 100), u, meter.Bill{120, 0, 0, 0})
	bills(t, "no tier", flat(10, 100, 100), meter.Use{Values: []int{7}, Out: 50000}, meter.Bill{7, 170, 0, 170})
	bills(t, "one hour", flat(1000, 0, 0), meter.Use{Values: []int{3}}, meter.Bill{3, 3000, 0, 3000})
	great := flat(1000, most, 100)
	great.Tiers = []meter.Tier{{50000, 100}}
	full := meter.Use{Values: slices.Repeat([]int{100000}, 1000), Out: 49999}
	bills(t, "as much as possible", great, full, meter.Bill{100000000, 101000000000, 0, 101000000000})
	full.Out = 50000
	bills(t, "all of it is given back", great, full, meter.Bill{100000000, 101000000000, 101000000000, 0})
	great.Credit = 99
	bills(t, "nearly all of it is given back", great, full, meter.Bill{100000000, 101000000000, 99990000000, 1010000000})
}

// TestPrices has a price for each hour, and uses that last for days.
func TestPrices(t *testing.T) {
	x := meter.Tariff{}
	for hour := range 24 {
		x.Price = append(x.Price, 1000-hour*hour)
	}
	for hour := range 1000 {
		u := meter.Use{Values: make([]int, hour+1)}
		u.Values[hour] = 3
		paid := 3 * (1000 - (hour%24)*(hour%24))
		bills(t, "one hour", x, u, meter.Bill{3, paid, 0, paid})
	}
	day := 0
	for _, n := range x.Price {
		day += n
	}
	for hours, want := range map[int]int{0: 0, 1: 1000, 2: 1999, 23: day - 471, 24: day, 25: day + 1000, 26: day + 1999, 48: 2 * day, 49: 2*day + 1000, 1000: 41*day + 16*1000 - 1240} {
		bills(t, "each hour", x, meter.Use{Values: slices.Repeat([]int{1}, hours)}, meter.Bill{hours, want, 0, want})
	}
}

// TestPercentages has minutes just at those of tiers and one below, and percentages below, at and above Credit.
func TestPercentages(t *testing.T) {
	x := flat(0, 1000, 0)
	x.Tiers = []meter.Tier{{0, 1}, {1, 2}, {30, 2}, {120, 25}, {121, 50}, {5000, 50}, {40000, 99}, {50000, 100}}
	for credit := range 101 {
		x.Credit = credit
		for out, percentage := range map[int]int{0: 1, 1: 2, 2: 2, 29: 2, 30: 2, 31: 2, 119: 2, 120: 25, 121: 50, 122: 50, 4999: 50, 5000: 50, 39999: 50, 40000: 99, 49999: 99, 50000: 100} {
			n := 10 * min(percentage, credit)
			bills(t, "percentage", x, meter.Use{Out: out}, meter.Bill{0, 1000, n, 1000 - n})
		}
	}
	x.Credit = 100
	x.Tiers = []meter.Tier{{7, 30}}
	for out, percentage := range map[int]int{0: 0, 6: 0, 7: 30, 8: 30, 50000: 30} {
		bills(t, "one tier", x, meter.Use{Out: out}, meter.Bill{0, 1000, 10 * percentage, 1000 - 10*percentage})
	}
}

// TestRounding has credits at just a half, a little less and a little more.
func TestRounding(t *testing.T) {
	for _, c := range []struct{ amount, percentage, want int }{
		{0, 50, 0}, {1, 0, 0}, {1, 1, 0}, {1, 49, 0}, {1, 50, 1}, {1, 51, 1}, {1, 99, 1}, {1, 100, 1},
		{3, 49, 1}, {3, 50, 2}, {3, 51, 2}, {5, 49, 2}, {5, 50, 3}, {5, 51, 3}, {7, 50, 4}, {9, 50, 5},
		{10, 4, 0}, {10, 5, 1}, {10, 6, 1}, {10, 14, 1}, {10, 15, 2}, {10, 25, 3}, {30, 5, 2},
		{50, 1, 1}, {49, 1, 0}, {51, 1, 1}, {149, 1, 1}, {150, 1, 2}, {151, 1, 2}, {250, 1, 3}, {2, 25, 1}, {6, 25, 2}, {6, 75, 5}, {999999999, 50, 500000000}, {most, 33, 330000000},
	} {
		x := flat(0, c.amount, 100)
		x.Tiers = []meter.Tier{{0, c.percentage}}
		bills(t, "the tier's percentage", x, meter.Use{}, meter.Bill{0, c.amount, c.want, c.amount - c.want})
		x.Tiers[0].Percent, x.Credit = 100, c.percentage
		bills(t, "Credit", x, meter.Use{}, meter.Bill{0, c.amount, c.want, c.amount - c.want})
	}
}

// TestBillLengths has 23, 24 and 25 prices, 8 tiers and 9, no hour, 1000 hours and 1001.
func TestBillLengths(t *testing.T) {
	x, u := chapter3()
	for n, want := range map[int]api.Errno{0: api.ErrArg, 1: api.ErrArg, 23: api.ErrArg, 24: api.OK, 25: api.ErrArg, 48: api.ErrArg, 1000: api.ErrArg} {
		y := copiedTariff(x)
		y.Price = slices.Repeat([]int{1}, n)
		billed(t, "prices", y, u, want)
		y.Tiers = tiers(9)
		billed(t, "prices and tiers", y, u, cmp.Or(want, api.ErrMany))
		y.Tiers, y.Price = nil, slices.Repeat([]int{-1}, n)
		billed(t, "wrong prices", y, u, cmp.Or(want, api.ErrRange))
	}
	for n, want := range map[int]api.Errno{0: api.OK, 1: api.OK, 7: api.OK, 8: api.OK, 9: api.ErrMany, 10: api.ErrMany, 1000: api.ErrMany} {
		y := copiedTariff(x)
		y.Tiers = tiers(n)
		for i := range y.Tiers {
			y.Tiers[i].Percent = i * 100 / n
		}
		billed(t, "tiers", y, u, want)
		y.Base = -1
		billed(t, "tiers and a wrong number", y, u, cmp.Or(want, api.ErrRange))
	}
	for n, want := range map[int]api.Errno{0: api.OK, 1: api.OK, 999: api.OK, 1000: api.OK, 1001: api.ErrMany, 5000: api.ErrMany} {
		v := meter.Use{Values: make([]int, n)}
		billed(t, "hours", x, v, want)
		v.Out = -1
		billed(t, "hours and a wrong number", x, v, cmp.Or(want, api.ErrRange))
		y := copiedTariff(x)
		y.Credit = 101
		billed(t, "hours and a wrong tariff", y, v, api.ErrRange)
	}
	billed(t, "nothing", meter.Tariff{}, meter.Use{}, api.ErrArg)
	billed(t, "empty lists", meter.Tariff{Price: []int{}, Tiers: []meter.Tier{}}, meter.Use{Values: []int{}}, api.ErrArg)
}

// TestTariffNumbers has each number of a tariff at its limits and beyond.
func TestTariffNumbers(t *testing.T) {
	sets := map[bound]func(x *meter.Tariff, n int){
		{"Base", 0, most}:                    func(x *meter.Tariff, n int) { x.Base = n },
		{"Credit", 0, 100}:                   func(x *meter.Tariff, n int) { x.Credit = n },
		{"Minutes, alone", 0, 50000}:         func(x *meter.Tariff, n int) { x.Tiers = []meter.Tier{{n, 5}} },
		{"Minutes, first", 0, 39}:            func(x *meter.Tariff, n int) { x.Tiers = []meter.Tier{{n, 5}, {40, 5}, {60, 7}} },
		{"Minutes, between", 41, 59}:         func(x *meter.Tariff, n int) { x.Tiers = []meter.Tier{{40, 5}, {n, 5}, {60, 7}} },
		{"Minutes, last", 61, 50000}:         func(x *meter.Tariff, n int) { x.Tiers = []meter.Tier{{40, 5}, {60, 7}, {n, 7}} },
		{"Minutes at the end", 50000, 50000}: func(x *meter.Tariff, n int) { x.Tiers = []meter.Tier{{49999, 5}, {n, 5}} },
		{"Percent, alone", 0, 100}:           func(x *meter.Tariff, n int) { x.Tiers = []meter.Tier{{5, n}} },
		{"Percent, first", 0, 40}:            func(x *meter.Tariff, n int) { x.Tiers = []meter.Tier{{1, n}, {2, 40}, {3, 50}} },
		{"Percent, between", 40, 50}:         func(x *meter.Tariff, n int) { x.Tiers = []meter.Tier{{1, 40}, {2, n}, {3, 50}} },
		{"Percent, last", 50, 100}:           func(x *meter.Tariff, n int) { x.Tiers = []meter.Tier{{1, 40}, {2, 50}, {3, n}} },
		{"Percent at the end", 100, 100}:     func(x *meter.Tariff, n int) { x.Tiers = []meter.Tier{{1, 100}, {2, n}} },
	}
	for hour := range 24 {
		sets[bound{"Price " + strconv.Itoa(hour), 0, 1000}] = func(x *meter.Tariff, n int) { x.Price[hour] = n }
	}
	for b, set := range sets {
		for n, want := range b.around() {
			x, u := chapter3()
			set(&x, n)
			billed(t, b.name, x, u, want)
			// What is wrong with the tariff matters before what is wrong with the use.
			billed(t, b.name+", and many hours", x, meter.Use{Values: make([]int, 1001)}, cmp.Or(want, api.ErrMany))
			billed(t, b.name+", and a wrong value", x, meter.Use{Values: []int{-1}}, cmp.Or(want, api.ErrRange))
		}
	}
	x, u := chapter3()
	x.Tiers = []meter.Tier{{10, 5}, {10, 6}}
	billed(t, "the same Minutes", x, u, api.ErrRange)
	x.Tiers = []meter.Tier{{10, 5}, {20, 6}, {15, 7}}
	billed(t, "Minutes that decrease", x, u, api.ErrRange)
	x.Tiers = []meter.Tier{{10, 5}, {20, 4}}
	billed(t, "Percent that decreases", x, u, api.ErrRange)
	x.Tiers = []meter.Tier{{0, 0}, {1, 0}, {50000, 0}}
	billed(t, "the same Percent", x, u, api.OK)
}

// TestUseNumbers has each number of a use at its limits and beyond.
func TestUseNumbers(t *testing.T) {
	x, u := chapter3()
	for n, want := range (bound{"Out", 0, 50000}).around() {
		u.Out = n
		billed(t, "Out", x, u, want)
		billed(t, "Out, and many hours", x, meter.Use{Values: make([]int, 1001), Out: n}, api.ErrMany)
	}
	for n, want := range (bound{"value", 0, 100000}).around() {
		for _, hours := range []int{1, 2, 24, 25, 1000} {
			for _, hour := range []int{0, hours / 2, hours - 1} {
				u := meter.Use{Values: make([]int, hours)}
				u.Values[hour] = n
				billed(t, "value", x, u, want)
				u.Values = append(u.Values, make([]int, 1000)...)
				billed(t, "value, and many hours", x, u, api.ErrMany)
			}
		}
	}
}

// TestMakeRandom compares with the chapter's words.
func TestMakeRandom(t *testing.T) {
	r := rand.New(rand.NewPCG(11, 9))
	for range 20000 {
		x, u := randomTariff(r), randomUse(r, 60)
		bills(t, "random", x, u, tellBill(x, u))
	}
}

// TestManyUses has no use, 64 uses and 65.
func TestManyUses(t *testing.T) {
	x, u := chapter3()
	for n, want := range map[int]api.Errno{0: api.OK, 1: api.OK, 2: api.OK, 63: api.OK, 64: api.OK, 65: api.ErrMany, 66: api.ErrMany, 1000: api.ErrMany} {
		l, sum, e := meter.Total(x, slices.Repeat([]meter.Use{u}, n))
		if want != api.OK {
			n = 0
		}
		if e != want || sum != (meter.Bill{120 * n, 1300 * n, 260 * n, 1040 * n}) || !slices.Equal(l, slices.Repeat([]meter.Bill{{120, 1300, 260, 1040}}, n)) {
			t.Error(n, l, sum, e)
		}
	}
	for _, none := range [][]meter.Use{nil, {}} {
		// No use has an error, whatever the tariff is.
		for _, x := range []meter.Tariff{x, {}, {Base: -1}} {
			if l, sum, e := meter.Total(x, none); len(l) > 0 || sum != (meter.Bill{}) || e != api.OK {
				t.Error("no use", l, sum, e)
			}
		}
	}
	// Too many uses matter before what is wrong with the tariff and with them.
	wrong := slices.Repeat([]meter.Use{{Out: -1}}, 65)
	for _, x := range []meter.Tariff{x, {}} {
		if l, sum, e := meter.Total(x, wrong); len(l) > 0 || sum != (meter.Bill{}) || e != api.ErrMany {
			t.Error("65 wrong uses", l, sum, e)
		}
	}
	great := flat(1000, most, 0)
	full := meter.Use{Values: slices.Repeat([]int{100000}, 1000)}
	if l, sum, e := meter.Total(great, slices.Repeat([]meter.Use{full}, 64)); len(l) != 64 || sum != (meter.Bill{6400000000, 6464000000000, 0, 6464000000000}) || e != api.OK {
		t.Error("as much as possible", l, sum, e)
	}
}

// TestWrongUses has several uses that are wrong, of which the first one decides.
func TestWrongUses(t *testing.T) {
	x, u := chapter3()
	many, wrong := meter.Use{Values: make([]int, 1001)}, meter.Use{Values: []int{1, -1}}
	for _, c := range []struct {
		l    []meter.Use
		want api.Errno
	}{
		{[]meter.Use{u, u, u}, api.OK}, {[]meter.Use{many, wrong}, api.ErrMany}, {[]meter.Use{wrong, many}, api.ErrRange},
		{[]meter.Use{u, many, wrong}, api.ErrMany}, {[]meter.Use{u, wrong, many}, api.ErrRange},
		{[]meter.Use{u, u, u, many}, api.ErrMany}, {[]meter.Use{u, u, u, wrong}, api.ErrRange}, {[]meter.Use{u, u, {Out: 50001}, many}, api.ErrRange},
		{append(slices.Repeat([]meter.Use{u}, 63), wrong), api.ErrRange}, {append(slices.Repeat([]meter.Use{u}, 63), many), api.ErrMany},
	} {
		l, sum, e := meter.Total(x, c.l)
		if e != c.want || e != api.OK && (len(l) > 0 || sum != meter.Bill{}) {
			t.Error(len(c.l), l, sum, e, c.want)
		}
		// What is wrong with the tariff matters before that.
		y := copiedTariff(x)
		y.Credit = -1
		if l, sum, e := meter.Total(y, c.l); e != api.ErrRange || len(l) > 0 || sum != (meter.Bill{}) {
			t.Error("a wrong tariff", l, sum, e)
		}
	}
}

// TestTotalRandom compares with the bills of all uses.
func TestTotalRandom(t *testing.T) {
	r := rand.New(rand.NewPCG(11, 10))
	for range 2000 {
		x := randomTariff(r)
		var uses []meter.Use
		var want []meter.Bill
		sum := meter.Bill{}
		for range r.IntN(10) {
			u := randomUse(r, 40)
			b := tellBill(x, u)
			uses, want = append(uses, u), append(want, b)
			sum.Energy += b.Energy
			sum.Amount += b.Amount
			sum.Credit += b.Credit
			sum.Due += b.Due
		}
		if l, total, e := meter.Total(x, uses); e != api.OK || !slices.Equal(l, want) || total != sum {
			t.Fatal(x, uses, l, total, e)
		}
	}
}
