package round

import (
	"math"
	"testing"
)

func TestDirected(t *testing.T) {
	least, most, none := math.SmallestNonzeroFloat64, math.MaxFloat64, math.Copysign(0, -1)
	for _, c := range []struct{ near, miss, down, up float64 }{
		{1, 0, 1, 1},
		{1, 0.5, 1, 1 + 0x1p-52},
		{1, -0.5, 1 - 0x1p-53, 1},
		{0, least, 0, least},
		{none, -least, -least, none},
		{least, -least, 0, least},
		{-least, least, -least, none},
		{most, 1, most, math.Inf(1)},
		{-most, -1, math.Inf(-1), -most},
		{math.Inf(1), math.Inf(-1), most, math.Inf(1)},
		{math.Inf(-1), math.Inf(1), math.Inf(-1), -most},
	} {
		down, up := Directed(c.near, c.miss, false), Directed(c.near, c.miss, true)
		if math.Float64bits(down) != math.Float64bits(c.down) || math.Float64bits(up) != math.Float64bits(c.up) {
			t.Errorf("Directed(%v, %v) = %v, %v, want %v, %v", c.near, c.miss, down, up, c.down, c.up)
		}
	}
}

// An infinity that came in is exact; one that overflow made is not.
func TestInfinities(t *testing.T) {
	inf, most := math.Inf(1), math.MaxFloat64
	for i, c := range []struct{ got, want float64 }{
		{Sum(inf, -most, false), inf},
		{Sum(most, most, false), most},
		{Product(inf, 0.5, false), inf},
		{Product(most, 1.5, false), most},
		{Quotient(1, 0, false), inf},
		{Quotient(inf, 2, false), inf},
		{Quotient(most, 0.5, false), most},
		{Root(inf, false), inf},
	} {
		if c.got != c.want {
			t.Errorf("case %d: %v, want %v", i, c.got, c.want)
		}
	}
}
