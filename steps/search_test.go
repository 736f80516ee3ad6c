package steps

import (
	"testing"

	"switchgear/api"
)

// TestProgramLengths looks inside: no plant is known that needs so long a program.
func TestProgramLengths(t *testing.T) {
	met := newReached()
	met.add(api.State{}, arrival{})
	for n := range 300 {
		l, right := met.program()
		if len(l) != n || right != (n <= 256) {
			t.Fatal(n, len(l), right)
		}
		for i, x := range l {
			if x.Index != i {
				t.Fatal(n, l)
			}
		}
		last := len(met.states) - 1
		met.add(api.State{}, arrival{}) // it is not on the way
		met.add(api.State{}, arrival{last, api.Step{Deed: api.Open, Index: n}})
	}
}
