package keep

import (
	"slices"

	"switchgear/heat"
)

// box is a box of temperatures of a hall.
type box struct{ low, high []int }

// wider returns the box that contains another one and what follows its corners.
func (b box) wider(h heat.Hall, k heat.Class) box {
	// Next has no error: the first box has none, and what Next returns is allowed again.
	low, _ := heat.Next(h, b.low, k.Low)
	high, _ := heat.Next(h, b.high, k.High)
	for room := range low {
		low[room] = min(low[room], b.low[room])
		high[room] = max(high[room], b.high[room])
	}
	return box{low, high}
}

// same reports whether two boxes are equal.
func (b box) same(other box) bool {
	return slices.Equal(b.low, other.low) && slices.Equal(b.high, other.high)
}
