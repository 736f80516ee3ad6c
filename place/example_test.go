package place_test

import (
	"fmt"

	"switchgear/api"
	"switchgear/place"
)

// The example of README.md.
func Example() {
	draws := []place.Draw{{Power: 100, Count: 3}, {Power: 200, Count: 1}} // 100 was measured three times, 200 once
	x := place.Job{Need: [3]int{1, 1, 1}, Draws: draws, Worth: 5}         // it needs cooling, weight and ports
	l := []place.Job{x, x, x}
	sums, n, e := place.Sums(l[:2])
	fmt.Println(sums, n, e)
	chance, e := place.Chance(l, 400)
	fmt.Println(chance, e)
	t := place.Task{Jobs: l, Racks: []place.Rack{{Room: [3]int{3, 3, 3}, Cap: 400}}, Most: api.Ratio{N: 1, D: 10}}
	ok, e := place.Fits(l, t.Racks[0], t.Most)
	fmt.Println(ok, e)
	ok, e = place.Allowed(t, []int{0, -1, 0})
	fmt.Println(ok, e)
	p, e := place.Best(t)
	fmt.Println(p.Where, p.Worth, len(p.Proof), e)
	e = place.Verify(t, p)
	fmt.Println(e)
	n, e = place.Fill(l, 400, t.Most)
	fmt.Println(n, e)
	left, e := place.Spare(t, p.Where)
	fmt.Println(left, e)
	// Output:
	// [{200 9} {300 6} {400 1}] 16 0
	// {5 32} 0
	// false 0
	// true 0
	// [0 0 -1] 10 6 0
	// 0
	// 2 0
	// [[1 1 1 0]] 0
}
