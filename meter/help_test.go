package meter_test

import (
	"math"
	"math/big"
	"math/rand/v2"
	"slices"
	"testing"

	"switchgear/api"
	"switchgear/meter"
)

// most is a shorter name.
const most = meter.MaxValue

// bound is a number with its limits.
type bound struct {
	name      string
	low, high int
}

// around returns numbers and the errors that they have.
func (b bound) around() map[int]api.Errno {
	return map[int]api.Errno{
		b.low: api.OK, min(b.low+1, b.high): api.OK, max(b.high-1, b.low): api.OK, b.high: api.OK,
		b.low - 1: api.ErrRange, b.high + 1: api.ErrRange, -1000 - b.high: api.ErrRange, b.low - 2: api.ErrRange,
		math.MinInt: api.ErrRange, math.MinInt + 1: api.ErrRange, math.MaxInt: api.ErrRange, math.MaxInt - 1: api.ErrRange, 1 << 32: api.ErrRange,
	}
}

// readings returns n readings, one for each of 64 meters and then for the next hour.
func readings(n int) []meter.Reading {
	l := make([]meter.Reading, n)
	for i := range l {
		l[i] = meter.Reading{Meter: i % meter.MaxMeters, Hour: i / meter.MaxMeters, Value: i * 7}
	}
	return l
}

// chain returns the chain of readings that must have one.
func chain(t *testing.T, key uint64, l []meter.Reading) []meter.Link {
	t.Helper()
	c, e := meter.Sign(key, l)
	if e != api.OK || len(c) != len(l) {
		t.Fatal("Sign:", len(c), e, l)
	}
	return c
}

// unsigned returns the links of readings with signs that are 0.
func unsigned(l []meter.Reading) []meter.Link {
	c := make([]meter.Link, len(l))
	for i, r := range l {
		c[i].Reading = r
	}
	return c
}

// readingsOf returns the readings of a chain.
func readingsOf(c []meter.Link) []meter.Reading {
	l := make([]meter.Reading, len(c))
	for i, x := range c {
		l[i] = x.Reading
	}
	return l
}

// tellMix mixes by the chapter's words, with numbers that do not wrap around.
func tellMix(x, y uint64) uint64 {
	word := new(big.Int).Lsh(big.NewInt(1), 64)
	number := func(n uint64) *big.Int { return new(big.Int).SetUint64(n) }
	times := func(z *big.Int, n uint64) *big.Int {
		z = new(big.Int).Mul(z, number(n))
		return z.Mod(z, word)
	}
	shifted := func(z *big.Int, bits uint) *big.Int {
		return new(big.Int).Xor(z, new(big.Int).Rsh(z, bits))
	}
	z := new(big.Int).Xor(number(x), number(y))
	z = shifted(times(z, 0x9E3779B97F4A7C15), 29)
	z = shifted(times(z, 0xBF58476D1CE4E5B9), 32)
	return z.Uint64()
}

// tellSigns returns the signs of readings, whatever they are.
func tellSigns(key uint64, l []meter.Reading) []uint64 {
	var signs []uint64
	sign := tellMix(key, 1)
	for _, r := range l {
		for _, n := range []uint64{uint64(r.Meter), uint64(r.Hour), uint64(r.Value), key} {
			sign = tellMix(sign, n)
		}
		signs = append(signs, sign)
	}
	return signs
}

// tellReading returns what is wrong with reading i of a list.
func tellReading(l []meter.Reading, i int) api.Errno {
	r := l[i]
	if r.Meter < 0 || r.Meter > 63 || r.Hour < 0 || r.Hour > 1000000000 || r.Value < 0 || r.Value > 1000000000 {
		return api.ErrRange
	}
	for _, x := range l[:i] {
		if x.Meter == r.Meter && x.Hour == r.Hour {
			return api.ErrMeter
		}
	}
	return api.OK
}

// tellVerify returns what Verify should.
func tellVerify(key uint64, c []meter.Link) (int, api.Errno) {
	l := readingsOf(c)
	signs := tellSigns(key, l)
	for i := range c {
		if e := tellReading(l, i); e != api.OK {
			return i, e
		}
		if c[i].Sign != signs[i] {
			return i, api.ErrFalse
		}
	}
	return len(c), api.OK
}

// chapter1 returns the case of the chapter's first example.
func chapter1() meter.Case {
	return meter.Case{Nodes: []meter.Node{{-1, 0, 5}, {0, 0, 0}, {0, 0, 0}}, Values: []int{100, 60, 50}}
}

// chapter2 returns the case of the chapter's second example.
func chapter2() meter.Case {
	return meter.Case{Nodes: []meter.Node{{-1, 0, 5}, {0, 0, 5}, {1, 0, 0}, {1, 0, 0}}, Values: []int{100, 80, 50, 48}}
}

// row returns a case of n nodes, of which each hangs on the one before it, and behind each just so much is lost; all have the same value.
func row(n, lost, value int) meter.Case {
	c := meter.Case{Values: slices.Repeat([]int{value}, n)}
	for i := range n {
		c.Nodes = append(c.Nodes, meter.Node{Up: i - 1, Low: lost, High: lost})
	}
	return c
}

// star returns a case of n nodes that all hang on the root; it shows value, and they show what is given.
func star(low, high, value int, others ...int) meter.Case {
	c := meter.Case{Nodes: []meter.Node{{-1, low, high}}, Values: append([]int{value}, others...)}
	for range others {
		c.Nodes = append(c.Nodes, meter.Node{Up: 0})
	}
	return c
}

// copied returns an equal case that shares no memory with c.
func copied(c meter.Case) meter.Case {
	return meter.Case{Nodes: slices.Clone(c.Nodes), Values: slices.Clone(c.Values)}
}

// sameCase reports whether cases are equal.
func sameCase(a, b meter.Case) bool {
	return slices.Equal(a.Nodes, b.Nodes) && slices.Equal(a.Values, b.Values)
}

// sameLists reports whether lists are equal.
func sameLists(a, b [][]int) bool { return slices.EqualFunc(a, b, slices.Equal) }

// isInner reports whether something hangs on a node.
func isInner(c meter.Case, node int) bool {
	return slices.ContainsFunc(c.Nodes, func(n meter.Node) bool { return n.Up == node })
}

// tellBroken returns the nodes whose balance does not hold with some values.
func tellBroken(c meter.Case, values []int) []int {
	var list []int
	for node, n := range c.Nodes {
		lost := values[node]
		for son, x := range c.Nodes {
			if x.Up == node {
				lost -= values[son]
			}
		}
		if isInner(c, node) && (lost < n.Low || lost > n.High) {
			list = append(list, node)
		}
	}
	return list
}

// edge is a way from one vertex to another one on which an amount from low to high flows.
type edge struct{ from, to, low, high int }

// edges returns a network in which amounts can flow if and only if a set explains a case: vertex 0 is the outside, and vertex i + 1 is node i, if something hangs on it; values flow to nodes, and what is lost flows out of them.
func edges(c meter.Case, set []int) []edge {
	var list []edge
	for node, n := range c.Nodes {
		x := edge{from: n.Up + 1, low: c.Values[node], high: c.Values[node]}
		if slices.Contains(set, node) {
			x.low, x.high = 0, most
		}
		if isInner(c, node) {
			x.to = node + 1
			list = append(list, edge{from: node + 1, low: n.Low, high: n.High})
		}
		list = append(list, x)
	}
	return list
}

// tellExplains reports whether a set explains a case. By Hoffman's theorem it does unless more must flow into a group of vertices than can flow out of it.
func tellExplains(c meter.Case, set []int) bool {
	list := edges(c, set)
	for group := range 1 << (len(c.Nodes) + 1) {
		must, can := 0, 0
		for _, x := range list {
			from, to := group>>x.from&1 == 1, group>>x.to&1 == 1
			if to && !from {
				must += x.low
			}
			if from && !to {
				can += x.high
			}
		}
		if must > can {
			return false
		}
	}
	return true
}

// setOf returns the nodes of a set that is given by bits.
func setOf(bits int) []int {
	var set []int
	for node := range meter.MaxNodes {
		if bits>>node&1 == 1 {
			set = append(set, node)
		}
	}
	return set
}

// tellLeast returns the least sets, in lexicographic order.
func tellLeast(c meter.Case) [][]int {
	var least [][]int
	for bits := range 1 << len(c.Nodes) {
		set := setOf(bits)
		if len(least) > 0 && len(set) > len(least[0]) || !tellExplains(c, set) {
			continue
		}
		if len(least) > 0 && len(set) < len(least[0]) {
			least = nil
		}
		least = append(least, set)
	}
	slices.SortFunc(least, slices.Compare)
	return least
}

// kind says how great the numbers of random cases are.
type kind struct{ value, lost, edge int }

// Kinds of random cases: small ones, great ones, and such whose numbers are mostly at their limits.
var kinds = []kind{{value: 4, lost: 2}, {value: most / 3, lost: most / 8}, {value: most, lost: most, edge: 2}, {value: 3, lost: 2, edge: 4}}

// number returns a random number from 0 to n, or one near the limits.
func (k kind) number(r *rand.Rand, n int) int {
	if k.edge > 0 && r.IntN(k.edge) == 0 {
		return []int{0, 0, 1, most - 2, most - 1, most, most}[r.IntN(7)]
	}
	return r.IntN(n + 1)
}

// randomCase returns a valid case of at most n nodes, in which some values are wrong, and which ones these may be; it has none if the right ones would not be allowed.
func randomCase(r *rand.Rand, n int) (meter.Case, []int, bool) {
	k := kinds[r.IntN(len(kinds))]
	c := meter.Case{Nodes: make([]meter.Node, 1+r.IntN(n))}
	c.Values = make([]int, len(c.Nodes))
	for i := range c.Nodes {
		a, b := k.number(r, k.lost), k.number(r, k.lost)
		c.Nodes[i] = meter.Node{Up: r.IntN(i+1) - 1, Low: min(a, b), High: max(a, b)}
		if i > 0 {
			c.Nodes[i].Up = r.IntN(i)
		}
	}
	right := true
	for i, x := range slices.Backward(c.Nodes) {
		if !isInner(c, i) {
			c.Values[i] = k.number(r, k.value)
		} else {
			c.Values[i] += x.Low + r.IntN(x.High-x.Low+1)
		}
		if i > 0 {
			c.Values[x.Up] += c.Values[i]
		}
		right = right && c.Values[i] <= most
	}
	for i := range c.Values {
		c.Values[i] = min(c.Values[i], most)
	}
	var wrong []int
	for i := range c.Values {
		if r.IntN(4) == 0 {
			c.Values[i] = k.number(r, k.value)
			wrong = append(wrong, i)
		}
	}
	return c, wrong, right
}

// randomSet returns a set of nodes of a case.
func randomSet(r *rand.Rand, c meter.Case) []int { return setOf(r.IntN(1 << len(c.Nodes))) }

// flat returns a tariff with one price at all hours, and no tiers.
func flat(price, base, credit int) meter.Tariff {
	return meter.Tariff{Price: slices.Repeat([]int{price}, 24), Base: base, Credit: credit}
}

// chapter3 returns the tariff and the use of the chapter's third example.
func chapter3() (meter.Tariff, meter.Use) {
	t := flat(10, 100, 20)
	t.Tiers = []meter.Tier{{30, 10}, {120, 25}}
	return t, meter.Use{Values: slices.Repeat([]int{5}, 24), Out: 150}
}

// copiedTariff returns an equal tariff that shares no memory with t.
func copiedTariff(t meter.Tariff) meter.Tariff {
	t.Price, t.Tiers = slices.Clone(t.Price), slices.Clone(t.Tiers)
	return t
}

// copiedUses returns equal uses that share no memory with l.
func copiedUses(l []meter.Use) []meter.Use {
	l = slices.Clone(l)
	for i := range l {
		l[i].Values = slices.Clone(l[i].Values)
	}
	return l
}

// tellBill returns the bill of a use by the chapter's words.
func tellBill(t meter.Tariff, u meter.Use) meter.Bill {
	b := meter.Bill{Amount: t.Base}
	hour := 0
	for _, v := range u.Values {
		b.Energy += v
		b.Amount += v * t.Price[hour]
		hour++
		if hour == 24 {
			hour = 0
		}
	}
	percentage := 0
	for _, x := range slices.Backward(t.Tiers) {
		if x.Minutes <= u.Out {
			percentage = x.Percent
			break
		}
	}
	if percentage > t.Credit {
		percentage = t.Credit
	}
	b.Credit = b.Amount * percentage / 100
	if rest := b.Amount * percentage % 100; rest >= 50 {
		b.Credit++
	}
	b.Due = b.Amount - b.Credit
	return b
}

// randomTariff returns a valid tariff.
func randomTariff(r *rand.Rand) meter.Tariff {
	t := meter.Tariff{Base: r.IntN(300), Credit: r.IntN(101)}
	for range 24 {
		t.Price = append(t.Price, r.IntN(40))
	}
	minutes, percents := map[int]bool{}, []int{}
	for range r.IntN(9) {
		minutes[r.IntN(60)] = true
	}
	for range minutes {
		percents = append(percents, r.IntN(101))
	}
	slices.Sort(percents)
	for n := range 60 {
		if minutes[n] {
			t.Tiers = append(t.Tiers, meter.Tier{n, percents[len(t.Tiers)]})
		}
	}
	return t
}

// randomUse returns a valid use of at most n hours.
func randomUse(r *rand.Rand, n int) meter.Use {
	u := meter.Use{Out: r.IntN(70)}
	for range r.IntN(n + 1) {
		u.Values = append(u.Values, r.IntN(50))
	}
	return u
}
