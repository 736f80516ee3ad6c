package meter_test

import (
	"math/rand/v2"
	"slices"
	"testing"

	"switchgear/api"
	"switchgear/meter"
)

// TestFirstDifference checks that a chain that is not the one that Sign makes of its readings is found at the first link at which they differ.
func TestFirstDifference(t *testing.T) {
	r := rand.New(rand.NewPCG(11, 11))
	met := map[bool]int{}
	for range 5000 {
		key := r.Uint64()
		c := randomChain(r, key)
		if len(c) > 0 && r.IntN(3) == 0 {
			c[r.IntN(len(c))].Sign ^= 1 << r.IntN(64)
		}
		right, e := meter.Sign(key, readingsOf(c))
		if e != api.OK {
			// Then Sign makes none, and it is found all the same.
			if _, found := meter.Verify(key, c); found == api.OK {
				t.Fatal("not found:", c)
			}
			continue
		}
		at, want := len(c), api.OK
		for i := range c {
			if c[i] != right[i] {
				at, want = i, api.ErrFalse
				break
			}
		}
		verify(t, "the first difference", key, c, at, want)
		met[want == api.OK]++
	}
	if min(met[true], met[false]) < 200 {
		t.Error("met:", met)
	}
}

// TestBeginnings checks that each beginning of a chain is right and has the same signs.
func TestBeginnings(t *testing.T) {
	r := rand.New(rand.NewPCG(11, 12))
	for range 200 {
		key, l := r.Uint64(), readings(r.IntN(100))
		all := chain(t, key, l)
		n := r.IntN(len(l) + 1)
		if c := chain(t, key, l[:n]); !slices.Equal(c, all[:n]) {
			t.Fatal(key, n)
		}
		verify(t, "a beginning", key, all[:n], n, api.OK)
	}
}

// TestFalseMeters checks that meters that are wrong explain the case, if the values were right but for them, so that the least sets have at most as many nodes.
func TestFalseMeters(t *testing.T) {
	r := rand.New(rand.NewPCG(11, 13))
	met := map[int]int{}
	for range 10000 {
		c, wrong, right := randomCase(r, 9)
		if !right {
			continue
		}
		explains(t, "what is wrong", c, wrong, true)
		sets, e := meter.Least(c)
		if e != api.OK || len(sets) == 0 || len(sets[0]) > len(wrong) {
			t.Fatalf("%+v: %v %d, but %v are wrong", c, sets, e, wrong)
		}
		met[len(sets[0])]++
	}
	for n := range 4 {
		if met[n] < 50 {
			t.Error("met:", n, met[n])
		}
	}
}

// TestNotBroken checks that the empty set is the only least one if no balance is broken, and only then; and that it leaves all values as they are.
func TestNotBroken(t *testing.T) {
	r := rand.New(rand.NewPCG(11, 14))
	met := map[bool]int{}
	for range 10000 {
		c, _, _ := randomCase(r, 9)
		list, _ := meter.Broken(c)
		sets, e := meter.Least(c)
		empty := e == api.OK && len(sets) == 1 && len(sets[0]) == 0
		if empty != (len(list) == 0) {
			t.Fatalf("%+v: %v are broken, %v %d", c, list, sets, e)
		}
		explains(t, "the empty set", c, nil, empty)
		if empty {
			repair(t, "the empty set", c, nil, c.Values...)
		}
		met[empty]++
	}
	if min(met[true], met[false]) < 1000 {
		t.Error("met:", met)
	}
}

// TestMoreExplains checks that a set that has more than one that explains a case explains it, too, and that its repair has no greater root.
func TestMoreExplains(t *testing.T) {
	r := rand.New(rand.NewPCG(11, 15))
	met := 0
	for range 3000 {
		c, _, _ := randomCase(r, 14)
		set := randomSet(r, c)
		if ok, _ := meter.Explains(c, set); !ok {
			continue
		}
		values, _ := meter.Repair(c, set)
		for node := range c.Nodes {
			if slices.Contains(set, node) {
				continue
			}
			more := append(slices.Clone(set), node)
			slices.Sort(more)
			explains(t, "one more", c, more, true)
			if now, _ := meter.Repair(c, more); now[0] > values[0] {
				t.Fatalf("%+v %v: %v, with node %d %v", c, set, values, node, now)
			}
			met++
		}
	}
	if met < 3000 {
		t.Error("met:", met)
	}
}

// TestRepaired checks that no balance is broken with the values of Repair, and that the empty set explains them.
func TestRepaired(t *testing.T) {
	r := rand.New(rand.NewPCG(11, 16))
	met := 0
	for range 2000 {
		c, _, _ := randomCase(r, 14)
		sets, e := meter.Least(c)
		if e != api.OK {
			continue
		}
		for _, set := range sets {
			now := copied(c)
			now.Values, e = meter.Repair(c, set)
			if list, ofBroken := meter.Broken(now); e != api.OK || ofBroken != api.OK || len(list) > 0 {
				t.Fatalf("%+v %v: %v %d %v %d", c, set, now.Values, e, list, ofBroken)
			}
			least(t, "repaired", now, nil)
			// In a least set no node could have stayed.
			for _, node := range set {
				if now.Values[node] == c.Values[node] {
					t.Fatalf("%+v %v: %v", c, set, now.Values)
				}
			}
			met += min(1, len(set))
		}
	}
	if met < 1000 {
		t.Error("met:", met)
	}
}

// TestSumOfHours checks that bills are the sum of their hours, and that Due is never below 0 and never above Amount.
func TestSumOfHours(t *testing.T) {
	r := rand.New(rand.NewPCG(11, 17))
	for range 1000 {
		x := randomTariff(r)
		u := randomUse(r, 60)
		whole, e := meter.Make(x, u)
		if e != api.OK || whole.Due < 0 || whole.Due > whole.Amount || whole.Due+whole.Credit != whole.Amount {
			t.Fatal(x, u, whole, e)
		}
		energy, amount := 0, x.Base
		for hour, v := range u.Values {
			one := meter.Use{Values: make([]int, hour+1)}
			one.Values[hour] = v
			b, _ := meter.Make(x, one)
			energy += b.Energy
			amount += b.Amount - x.Base
		}
		if energy != whole.Energy || amount != whole.Amount {
			t.Fatal(x, u, whole, energy, amount)
		}
	}
}

// TestMoreOut checks that more minutes never make Due greater, and more Credit neither.
func TestMoreOut(t *testing.T) {
	r := rand.New(rand.NewPCG(11, 18))
	for range 1000 {
		x, u := randomTariff(r), randomUse(r, 30)
		before, _ := meter.Make(x, u)
		u.Out += r.IntN(30)
		x.Credit = min(100, x.Credit+r.IntN(30))
		if after, e := meter.Make(x, u); e != api.OK || after.Due > before.Due || after.Amount != before.Amount {
			t.Fatal(x, u, before, after, e)
		}
	}
}
