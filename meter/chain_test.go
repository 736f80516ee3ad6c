package meter_test

import (
	"math"
	"math/rand/v2"
	"slices"
	"testing"

	"switchgear/api"
	"switchgear/meter"
)

func TestConstants(t *testing.T) {
	if meter.MaxMeters != 64 || meter.MaxValue != 1000000000 || meter.MaxLinks != 4096 || meter.MaxNodes != 14 || meter.MaxHours != 1000 || meter.MaxTiers != 8 {
		t.Error("constants")
	}
}

func TestMix(t *testing.T) {
	for _, c := range []struct{ x, y, want uint64 }{
		{0, 0, 0}, {math.MaxUint64, math.MaxUint64, 0}, {5, 5, 0},
		{1, 0, 0xca009717f87d8879}, {0, 1, 0xca009717f87d8879},
		{1, 2, 0xeab1569b9465d5e7}, {2, 1, 0xeab1569b9465d5e7}, {3, 0, 0xeab1569b9465d5e7},
		{7, 1, 0x7be2226c616fcedd},
		{math.MaxUint64, 0, 0xa68094cce9e291eb}, {0, math.MaxUint64, 0xa68094cce9e291eb},
		{1 << 63, 0, 0xf39396e4f39396e4}, {1 << 63, 1, 0xd66d0033e4101f5d},
		{0x123456789abcdef0, 0x0fedcba987654321, 0xafb922f019410a34},
	} {
		if got := meter.Mix(c.x, c.y); got != c.want || tellMix(c.x, c.y) != c.want {
			t.Errorf("%x %x: %x, not %x", c.x, c.y, got, c.want)
		}
	}
	for i := range 64 {
		for k := range 64 {
			x, y := uint64(1)<<i, uint64(1)<<k
			if meter.Mix(x, y) != tellMix(x, y) {
				t.Errorf("%x %x", x, y)
			}
		}
	}
	r := rand.New(rand.NewPCG(11, 1))
	for range 10000 {
		x, y := r.Uint64(), r.Uint64()>>r.IntN(64)
		if meter.Mix(x, y) != tellMix(x, y) {
			t.Errorf("%x %x", x, y)
		}
	}
}

func TestSign(t *testing.T) {
	for _, c := range []struct {
		key  uint64
		want []meter.Link
	}{
		{7, []meter.Link{{meter.Reading{0, 0, 100}, 0xdb9f6294baeff836}, {meter.Reading{1, 0, 60}, 0x45b5cee2833d67bb}, {meter.Reading{0, 1, 90}, 0x609e8f8bcdb5ee35}}},
		{0, []meter.Link{{meter.Reading{0, 0, 0}, 0xc6a968eac4644773}}},
		{math.MaxUint64, []meter.Link{{meter.Reading{63, most, most}, 0x88d4814b399d915b}, {meter.Reading{0, 0, 0}, 0xaf315ba62d03f678}}},
	} {
		if got := chain(t, c.key, readingsOf(c.want)); !slices.Equal(got, c.want) {
			t.Errorf("%x: %x, not %x", c.key, got, c.want)
		}
		if n, e := meter.Verify(c.key, c.want); n != len(c.want) || e != api.OK {
			t.Error(c.key, n, e)
		}
	}
}

// TestSignRandom compares with signs by the chapter's words.
func TestSignRandom(t *testing.T) {
	r := rand.New(rand.NewPCG(11, 2))
	for range 300 {
		key := r.Uint64() >> r.IntN(64)
		l := readings(r.IntN(130))
		r.Shuffle(len(l), func(i, k int) { l[i], l[k] = l[k], l[i] })
		for i := range l {
			l[i].Hour += r.IntN(3) * 499999999
			l[i].Value = r.IntN(most + 1)
		}
		c, signs := chain(t, key, l), tellSigns(key, l)
		for i, x := range c {
			if x.Reading != l[i] || x.Sign != signs[i] {
				t.Fatal(key, i, x, l[i], signs[i])
			}
		}
		if n, e := meter.Verify(key, c); n != len(l) || e != api.OK {
			t.Fatal(key, n, e)
		}
	}
}

// both compares what Sign, Verify and Table say of readings with an error, and where it is. Verify has their signs, so that it finds nothing else.
func both(t *testing.T, name string, l []meter.Reading, at int, want api.Errno) {
	t.Helper()
	const key = 11
	signed := unsigned(l)
	for i, sign := range tellSigns(key, l) {
		signed[i].Sign = sign
	}
	c, ofSign := meter.Sign(key, l)
	n, ofVerify := meter.Verify(key, signed)
	table, ofTable := meter.Table(unsigned(l))
	if ofSign != want || ofVerify != want || ofTable != want || n != at {
		t.Errorf("%s: Sign %d, Verify %d %d, Table %d, not %d %d", name, ofSign, n, ofVerify, ofTable, at, want)
	}
	if want != api.OK && (len(c) > 0 || len(table) > 0) || want == api.OK && !slices.Equal(c, signed) {
		t.Error(name, c, table)
	}
}

// TestManyLinks has no reading, 4096 and 4097.
func TestManyLinks(t *testing.T) {
	for n, want := range map[int]api.Errno{0: api.OK, 1: api.OK, 4095: api.OK, 4096: api.OK, 4097: api.ErrMany, 5000: api.ErrMany} {
		at := n
		if want != api.OK {
			at = 0
		}
		l := readings(n)
		both(t, "right", l, at, want)
		if n < 2 {
			continue
		}
		// Too many of them matter before what is wrong with them.
		wrong, e := 1, api.ErrMeter
		if want != api.OK {
			wrong, e = 0, want
		}
		l[1] = l[0]
		both(t, "a meter twice", l, wrong, e)
		if want == api.OK {
			wrong, e = 0, api.ErrRange
		}
		l[0].Meter = -1
		both(t, "a wrong number", l, wrong, e)
	}
	both(t, "nil", nil, 0, api.OK)
	both(t, "empty", []meter.Reading{}, 0, api.OK)
	c := chain(t, 3, readings(4096))
	c[0].Sign++
	if n, e := meter.Verify(3, append(c, meter.Link{Reading: meter.Reading{Hour: 100}})); n != 0 || e != api.ErrMany {
		t.Error("a wrong sign and too many", n, e)
	}
}

// TestReadingNumbers has each number of a reading at its limits and beyond, at the first, a middle and the last reading.
func TestReadingNumbers(t *testing.T) {
	sets := map[bound]func(x *meter.Reading, n int){
		{"Meter", 0, 63}:   func(x *meter.Reading, n int) { x.Meter = n },
		{"Hour", 0, most}:  func(x *meter.Reading, n int) { x.Hour = n },
		{"Value", 0, most}: func(x *meter.Reading, n int) { x.Value = n },
	}
	for b, set := range sets {
		for n, want := range b.around() {
			for at := range 5 {
				l := make([]meter.Reading, 5)
				for i := range l {
					l[i] = meter.Reading{Meter: 10 + i, Hour: 500 + i, Value: 10 * i}
				}
				set(&l[at], n)
				where := at
				if want == api.OK {
					where = len(l)
				}
				both(t, b.name, l, where, want)
			}
		}
	}
}

// TestMetHours has meters with several readings.
func TestMetHours(t *testing.T) {
	for _, c := range []struct {
		name string
		l    []meter.Reading
		at   int
		want api.Errno
	}{
		{"a meter twice", []meter.Reading{{3, 4, 5}, {3, 4, 5}}, 1, api.ErrMeter},
		{"a meter twice with another value", []meter.Reading{{3, 4, 5}, {3, 4, 6}}, 1, api.ErrMeter},
		{"a meter twice, not at once", []meter.Reading{{3, 4, 5}, {2, 4, 5}, {3, 5, 5}, {3, 4, 5}}, 3, api.ErrMeter},
		{"the zero reading twice", []meter.Reading{{0, 0, 0}, {0, 0, 0}}, 1, api.ErrMeter},
		{"the greatest reading twice", []meter.Reading{{63, most, 1}, {0, 0, 1}, {63, most, 2}}, 2, api.ErrMeter},
		{"a meter three times", []meter.Reading{{1, 1, 1}, {1, 1, 2}, {1, 1, 3}}, 1, api.ErrMeter},
		{"two meters for one hour", []meter.Reading{{3, 4, 5}, {4, 4, 5}}, 2, api.OK},
		{"one meter for two hours", []meter.Reading{{3, 4, 5}, {3, 5, 5}}, 2, api.OK},
		{"meter and hour the other way round", []meter.Reading{{3, 4, 5}, {4, 3, 5}}, 2, api.OK},
		{"hours backwards", []meter.Reading{{3, 9, 5}, {3, 8, 5}, {3, 0, 5}, {2, 7, 1}}, 4, api.OK},
		{"the next meter after 64 hours", []meter.Reading{{0, 64, 1}, {1, 0, 1}, {0, 1, 1}, {1, 64, 1}, {0, 65, 1}, {1, 1, 1}}, 6, api.OK},
		{"the next meter after the last hour", []meter.Reading{{0, most, 1}, {1, 0, 1}, {0, most - 1, 1}, {1, most, 1}, {2, 0, 1}}, 5, api.OK},
		{"the value is the other one's hour", []meter.Reading{{3, 4, 5}, {3, 5, 4}}, 2, api.OK},
		{"twice, then a wrong number", []meter.Reading{{3, 4, 5}, {3, 4, 5}, {64, 0, 0}}, 1, api.ErrMeter},
		{"a wrong number, then twice", []meter.Reading{{3, 4, 5}, {64, 0, 0}, {3, 4, 5}}, 1, api.ErrRange},
		{"twice, and a wrong number", []meter.Reading{{3, 4, 5}, {3, 4, most + 1}}, 1, api.ErrRange},
		{"twice, and a number below 0", []meter.Reading{{3, 4, 5}, {5, 5, 5}, {3, 4, -1}, {3, 4, 5}}, 2, api.ErrRange},
	} {
		both(t, c.name, c.l, c.at, c.want)
	}
}

// verify calls Verify and compares.
func verify(t *testing.T, name string, key uint64, c []meter.Link, at int, want api.Errno) {
	t.Helper()
	if n, e := meter.Verify(key, c); n != at || e != want {
		t.Errorf("%s: %d %d, not %d %d", name, n, e, at, want)
	}
}

// TestWrongSigns has signs that are wrong at each link.
func TestWrongSigns(t *testing.T) {
	right := chain(t, 77, readings(9))
	for at := range right {
		for bit := range 64 {
			c := slices.Clone(right)
			c[at].Sign ^= 1 << bit
			verify(t, "a bit", 77, c, at, api.ErrFalse)
		}
		c := slices.Clone(right)
		c[at].Sign = 0
		verify(t, "no sign", 77, c, at, api.ErrFalse)
		c[at].Sign = right[(at+1)%len(right)].Sign
		verify(t, "another link's sign", 77, c, at, api.ErrFalse)
		c = slices.Clone(right)
		for later := at; later < len(c); later++ {
			c[later].Sign++
		}
		verify(t, "all signs from here on", 77, c, at, api.ErrFalse)
	}
	for _, key := range []uint64{0, 1, 76, 78, 77 << 32, 77 | 1<<63, math.MaxUint64} {
		verify(t, "another key", key, right, 0, api.ErrFalse)
		for at := 1; at < len(right); at++ {
			c := slices.Clone(right)
			copy(c[at:], chain(t, key, readingsOf(right))[at:])
			verify(t, "another key from here on", 77, c, at, api.ErrFalse)
		}
		verify(t, "another key, no link", key, nil, 0, api.OK)
	}
}

// TestChangedChains has links that were left out, doubled, moved, or have other readings.
func TestChangedChains(t *testing.T) {
	const key = 1234567890123456789
	right := chain(t, key, readings(70))
	last := len(right) - 1
	for at := range right {
		without := slices.Delete(slices.Clone(right), at, at+1)
		if at < last {
			verify(t, "left out", key, without, at, api.ErrFalse)
		} else {
			verify(t, "the last one left out", key, without, last, api.OK)
		}
		verify(t, "only the first ones", key, right[:at], at, api.OK)
		if at > 0 {
			verify(t, "without the first ones", key, right[at:], 0, api.ErrFalse)
			verify(t, "the first one moved", key, slices.Concat(right[1:at+1], right[:1], right[at+1:]), 0, api.ErrFalse)
		}
		verify(t, "doubled", key, slices.Insert(slices.Clone(right), at+1, right[at]), at+1, api.ErrMeter)
		verify(t, "doubled at the end", key, append(slices.Clone(right), right[at]), last+1, api.ErrMeter)
		for other := range at {
			c := slices.Clone(right)
			c[at], c[other] = c[other], c[at]
			verify(t, "in another order", key, c, other, api.ErrFalse)
			c = slices.Clone(right)
			c[at].Reading, c[other].Reading = c[other].Reading, c[at].Reading
			verify(t, "readings in another order", key, c, other, api.ErrFalse)
		}
		for _, change := range []func(x *meter.Reading){
			func(x *meter.Reading) { x.Value++ },
			func(x *meter.Reading) { x.Value = most - x.Value },
			func(x *meter.Reading) { x.Hour += 1000 },
			func(x *meter.Reading) { x.Hour, x.Value = x.Value+1000, x.Hour },
		} {
			c := slices.Clone(right)
			change(&c[at].Reading)
			verify(t, "another reading", key, c, at, api.ErrFalse)
			// With its right sign the next link is the first that is wrong.
			c[at].Sign = tellSigns(key, readingsOf(c))[at]
			if at < last {
				verify(t, "another reading with its sign", key, c, at+1, api.ErrFalse)
			} else {
				verify(t, "the last reading with its sign", key, c, last+1, api.OK)
			}
		}
	}
	c := slices.Clone(right)
	slices.Reverse(c)
	verify(t, "backwards", key, c, 0, api.ErrFalse)
	verify(t, "other meters", key, chain(t, key, readings(71))[1:], 0, api.ErrFalse)
}

// TestSeveralReasons has links that are wrong for several reasons, and several links that are wrong.
func TestSeveralReasons(t *testing.T) {
	right := chain(t, 5, readings(6))
	spoils := []struct {
		want  api.Errno
		spoil func(c []meter.Link, at int)
	}{
		{api.ErrRange, func(c []meter.Link, at int) { c[at].Reading.Value = -1 }},
		{api.ErrMeter, func(c []meter.Link, at int) { c[at].Reading.Meter, c[at].Reading.Hour = 0, 0 }},
		{api.ErrFalse, func(c []meter.Link, at int) { c[at].Sign++ }},
	}
	for at := 1; at < len(right); at++ {
		for first, x := range spoils {
			for _, y := range spoils[first:] {
				c := slices.Clone(right)
				x.spoil(c, at)
				y.spoil(c, at)
				verify(t, "two reasons", 5, c, at, x.want)
			}
			for _, y := range spoils {
				for later := at + 1; later < len(right); later++ {
					c := slices.Clone(right)
					x.spoil(c, at)
					y.spoil(c, later)
					verify(t, "two links", 5, c, at, x.want)
				}
			}
		}
	}
	c := slices.Clone(right)
	for at := range c {
		for _, x := range spoils {
			x.spoil(c, at)
		}
	}
	verify(t, "everything", 5, c, 0, api.ErrRange)
	verify(t, "everything from link 1 on", 5, append(slices.Clone(right[:1]), c[1:]...), 1, api.ErrRange)
}

// randomChain returns a chain that may be wrong.
func randomChain(r *rand.Rand, key uint64) []meter.Link {
	l := make([]meter.Reading, r.IntN(12))
	for i := range l {
		l[i] = meter.Reading{Meter: r.IntN(9), Hour: r.IntN(9), Value: r.IntN(3)}
		if r.IntN(40) == 0 {
			l[i].Value = []int{-1, most, most + 1}[r.IntN(3)]
		}
	}
	if r.IntN(20) == 0 {
		key++
	}
	c := unsigned(l)
	for i, sign := range tellSigns(key, l) {
		c[i].Sign = sign
	}
	for i := range c {
		if r.IntN(40) == 0 {
			c[i] = c[r.IntN(len(c))]
		}
	}
	return c
}

// TestVerifyRandom compares with the chapter's words.
func TestVerifyRandom(t *testing.T) {
	r := rand.New(rand.NewPCG(11, 3))
	met := map[api.Errno]int{}
	for range 5000 {
		key := r.Uint64()
		c := randomChain(r, key)
		at, want := tellVerify(key, c)
		verify(t, "random", key, c, at, want)
		met[want]++

		l := readingsOf(c)
		want = api.OK
		for i := range l {
			if want = tellReading(l, i); want != api.OK {
				break
			}
		}
		if _, e := meter.Sign(key, l); e != want {
			t.Fatal("Sign", l, e, want)
		}
		if _, e := meter.Table(c); e != want {
			t.Fatal("Table", l, e, want)
		}
	}
	for _, e := range []api.Errno{api.OK, api.ErrRange, api.ErrMeter, api.ErrFalse} {
		if met[e] < 100 {
			t.Error("met:", e, met[e])
		}
	}
}

// table calls Table and compares.
func table(t *testing.T, name string, c []meter.Link, want ...[2]int) {
	t.Helper()
	if got, e := meter.Table(c); e != api.OK || !slices.Equal(got, want) {
		t.Errorf("%s: %v %d, not %v", name, got, e, want)
	}
}

func TestTable(t *testing.T) {
	table(t, "nil", nil)
	table(t, "empty", []meter.Link{})
	table(t, "one", unsigned([]meter.Reading{{5, 3, 7}}), [2]int{5, 7})
	table(t, "nothing was measured", unsigned([]meter.Reading{{5, 3, 0}, {0, 3, 0}}), [2]int{0, 0}, [2]int{5, 0})
	table(t, "some", unsigned([]meter.Reading{{63, 0, 1}, {9, 0, 10}, {63, 7, 2}, {10, 0, 100}, {9, 1, 20}, {63, 5, 4}, {0, 9, 1000}}), [2]int{0, 1000}, [2]int{9, 30}, [2]int{10, 100}, [2]int{63, 7})
	table(t, "signed", chain(t, 9, []meter.Reading{{2, 0, 5}, {1, 0, 6}, {2, 1, 7}}), [2]int{1, 6}, [2]int{2, 12})
	c := chain(t, 9, []meter.Reading{{2, 0, 5}, {1, 0, 6}, {2, 1, 7}})
	slices.Reverse(c)
	table(t, "wrong signs", c, [2]int{1, 6}, [2]int{2, 12})

	great := make([]meter.Reading, 4096)
	for i := range great {
		great[i] = meter.Reading{Meter: 40, Hour: most - i, Value: most}
	}
	table(t, "as much as possible", unsigned(great), [2]int{40, 4096 * most})
	sums := make([][2]int, 64)
	for i := range sums {
		sums[i][0] = i
	}
	l := readings(4096)
	for _, x := range l {
		sums[x.Meter][1] += x.Value
	}
	slices.Reverse(l)
	table(t, "all meters", unsigned(l), sums...)
}
