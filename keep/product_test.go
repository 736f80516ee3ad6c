package keep_test

import (
	"fmt"
	"math"
	"math/rand/v2"
	"slices"
	"testing"

	"switchgear/api"
	"switchgear/keep"
)

// multiplied returns the product of two games, which must have no error.
func multiplied(t *testing.T, a, b keep.Game) keep.Game {
	t.Helper()
	g, e := keep.Product(a, b)
	if e != api.OK {
		t.Fatalf("Product: error %d: %+v %+v", e, a, b)
	}
	return g
}

func TestProductChapter(t *testing.T) {
	g := multiplied(t, chapter(), chapter())
	r := solved(t, g)
	safe := []bool{true, true, false, true, true, false, false, false, false}
	if g.States != 9 || g.Controls != 4 || g.Shocks != 4 || len(g.Next) != 9*4*4 || !slices.Equal(g.Good, safe) || !slices.Equal(r.In, safe) {
		t.Error(g, r)
	}
	// The first is warm, the second cool; off and on; calm and sun: warm and cool. Sun and calm: hot and cool.
	state := warm*3 + cool
	if next := follows(g, state, off*2+on, calm*2+sun); next != warm*3+cool {
		t.Error(next)
	}
	if next := follows(g, state, off*2+on, sun*2+calm); next != hot*3+cool {
		t.Error(next)
	}
	if next := follows(g, state, on*2+off, calm*2+sun); next != cool*3+warm {
		t.Error(next)
	}
}

func TestProduct(t *testing.T) {
	a := keep.Game{States: 2, Controls: 1, Shocks: 2, Next: []int{0, 1, -1, 0}, Good: []bool{true, false}}
	b := keep.Game{States: 1, Controls: 2, Shocks: 1, Next: []int{0, -1}, Good: goods(1)}
	want := keep.Game{States: 2, Controls: 2, Shocks: 2, Next: []int{0, 1, -1, -1, -1, 0, -1, -1}, Good: []bool{true, false}}
	if g := multiplied(t, a, b); !sameGame(g, want) {
		t.Error(g, want)
	}
	// With one state, control and shock that stays, nothing changes.
	for _, g := range []keep.Game{chapter(), a, b, still(400, 16, 16), downhill(400, 16, 16)} {
		if left, right := multiplied(t, g, still(1, 1, 1)), multiplied(t, still(1, 1, 1), g); !sameGame(left, g) || !sameGame(right, g) {
			t.Error(left, right, g)
		}
	}
	// States, controls and shocks of b count fastest.
	a, b = still(2, 2, 2), still(3, 3, 3)
	a.Good[1], b.Good[2] = false, false
	g := multiplied(t, a, b)
	if g.States != 6 || g.Controls != 6 || g.Shocks != 6 || !slices.Equal(g.Good, []bool{true, true, false, false, false, false}) {
		t.Error(g)
	}
}

// TestProductMany has products at the limits, and beyond.
func TestProductMany(t *testing.T) {
	for _, c := range []struct {
		a, b [3]int
		want api.Errno
	}{
		{[3]int{20, 4, 4}, [3]int{20, 4, 4}, api.OK},
		{[3]int{400, 16, 16}, [3]int{1, 1, 1}, api.OK},
		{[3]int{1, 1, 1}, [3]int{400, 16, 16}, api.OK},
		{[3]int{200, 8, 2}, [3]int{2, 2, 8}, api.OK},
		{[3]int{20, 1, 1}, [3]int{21, 1, 1}, api.ErrMany},
		{[3]int{401, 1, 1}, [3]int{1, 1, 1}, api.ErrMany},
		{[3]int{133, 1, 1}, [3]int{3, 1, 1}, api.OK},
		{[3]int{134, 1, 1}, [3]int{3, 1, 1}, api.ErrMany},
		{[3]int{400, 16, 16}, [3]int{400, 16, 16}, api.ErrMany},
		{[3]int{1, 3, 1}, [3]int{1, 5, 1}, api.OK},
		{[3]int{1, 3, 1}, [3]int{1, 6, 1}, api.ErrMany},
		{[3]int{1, 17, 1}, [3]int{1, 1, 1}, api.ErrMany},
		{[3]int{1, 1, 5}, [3]int{1, 1, 3}, api.OK},
		{[3]int{1, 1, 6}, [3]int{1, 1, 3}, api.ErrMany},
		{[3]int{2, 2, 16}, [3]int{2, 2, 2}, api.ErrMany},
		{[3]int{0, 1, 1}, [3]int{1, 1, 1}, api.ErrMany},
	} {
		a, b := still(c.a[0], c.a[1], c.a[2]), still(c.b[0], c.b[1], c.b[2])
		g, e := keep.Product(a, b)
		if e != c.want || e != api.OK && !sameGame(g, keep.Game{}) {
			t.Error(c, e)
		}
		if e == api.OK && !sameGame(g, still(c.a[0]*c.b[0], c.a[1]*c.b[1], c.a[2]*c.b[2])) {
			t.Error(c, g)
		}
	}
}

// TestProductErrors checks that the error of a comes before that of b.
func TestProductErrors(t *testing.T) {
	short, odd := chapter(), chapter()
	short.Good = nil
	odd.Next[3] = 3
	for name, c := range map[string]struct {
		a, b keep.Game
		want api.Errno
	}{
		"a is too short":                 {short, chapter(), api.ErrArg},
		"b is too short":                 {chapter(), short, api.ErrArg},
		"a is too short, b odd":          {short, odd, api.ErrArg},
		"a is odd, b too short":          {odd, short, api.ErrRange},
		"a is odd, b nothing":            {odd, keep.Game{}, api.ErrRange},
		"a is nothing, b odd":            {keep.Game{}, odd, api.ErrMany},
		"a is too great, b is too short": {still(401, 1, 1), short, api.ErrMany},
		"both would be too great, b odd": {still(400, 1, 1), odd, api.ErrRange},
		"a odd, and too great for b":     {odd, still(400, 1, 1), api.ErrRange},
	} {
		if g, e := keep.Product(c.a, c.b); e != c.want || !sameGame(g, keep.Game{}) {
			t.Errorf("%s: %+v %d, not %d", name, g, e, c.want)
		}
	}
}

// TestProductRandom compares with the chapter's words.
func TestProductRandom(t *testing.T) {
	r := rand.New(rand.NewPCG(8, 6))
	for range 2000 {
		a, b := randomGame(r, 6), randomGame(r, 6)
		want := keep.Game{States: a.States * b.States, Controls: a.Controls * b.Controls, Shocks: a.Shocks * b.Shocks}
		want.Good, want.Next = make([]bool, want.States), make([]int, want.States*want.Controls*want.Shocks)
		for i := range a.States {
			for k := range b.States {
				want.Good[i*b.States+k] = a.Good[i] && b.Good[k]
				for control := range want.Controls {
					for shock := range want.Shocks {
						x := follows(a, i, control/b.Controls, shock/b.Shocks)
						y := follows(b, k, control%b.Controls, shock%b.Shocks)
						next := -1
						if x >= 0 && y >= 0 {
							next = x*b.States + y
						}
						want.Next[((i*b.States+k)*want.Controls+control)*want.Shocks+shock] = next
					}
				}
			}
		}
		if g := multiplied(t, a, b); !sameGame(g, want) {
			t.Fatalf("%+v %+v: %+v, not %+v", a, b, g, want)
		}
	}
}

func TestWithout(t *testing.T) {
	g := keep.Game{States: 2, Controls: 3, Shocks: 2, Next: []int{0, 0, 0, 1, 1, 0, 1, 1, -1, 0, 0, -1}, Good: []bool{true, false}}
	for control, next := range [][]int{{0, 1, 1, 0, -1, 0, 0, -1}, {0, 0, 1, 0, 1, 1, 0, -1}, {0, 0, 0, 1, 1, 1, -1, 0}} {
		want := keep.Game{States: 2, Controls: 2, Shocks: 2, Next: next, Good: []bool{true, false}}
		if less, e := keep.Without(g, control); e != api.OK || !sameGame(less, want) {
			t.Error(control, less, e)
		}
	}
	for _, control := range []int{-1, -2, 3, 16, math.MinInt, math.MaxInt} {
		if less, e := keep.Without(g, control); e != api.ErrArg || !sameGame(less, keep.Game{}) {
			t.Error(control, less, e)
		}
	}
	one := still(3, 1, 2)
	for control, want := range map[int]api.Errno{0: api.ErrMany, 1: api.ErrArg, -1: api.ErrArg, math.MaxInt: api.ErrArg} {
		if less, e := keep.Without(one, control); e != want || !sameGame(less, keep.Game{}) {
			t.Error("the only control", control, less, e)
		}
	}
	if less, e := keep.Without(still(400, 16, 16), 15); e != api.OK || !sameGame(less, still(400, 15, 16)) {
		t.Error(e)
	}
	if _, e := keep.Without(still(400, 16, 16), 16); e != api.ErrArg {
		t.Error(e)
	}
	wrong := chapter()
	wrong.Next[0] = 3
	for _, control := range []int{0, 1, 2, -1} {
		if less, e := keep.Without(wrong, control); e != api.ErrRange || !sameGame(less, keep.Game{}) {
			t.Error(control, less, e)
		}
	}
}

// TestWithoutRandom compares with the game, control by control.
func TestWithoutRandom(t *testing.T) {
	r := rand.New(rand.NewPCG(8, 7))
	for range 3000 {
		g := randomGame(r, 8)
		if g.Controls == 1 {
			continue
		}
		control := r.IntN(g.Controls)
		less, e := keep.Without(g, control)
		if e != api.OK || less.States != g.States || less.Controls != g.Controls-1 || less.Shocks != g.Shocks || !slices.Equal(less.Good, g.Good) || keep.Check(less) != api.OK {
			t.Fatal(g, control, less, e)
		}
		for state := range g.States {
			for other := range less.Controls {
				before := other
				if other >= control {
					before++
				}
				for shock := range g.Shocks {
					if follows(less, state, other, shock) != follows(g, state, before, shock) {
						t.Fatal(fmt.Sprint(g, control, less), state, other, shock)
					}
				}
			}
		}
	}
}
