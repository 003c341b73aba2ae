package dose

import (
	"math"
	"math/big"
)

const (
	signBit  = uint64(1) << 63
	infinity = uint64(0x7ff0000000000000)
	greatest = uint64(0x7fefffffffffffff)
	one      = uint64(0x3ff0000000000000)
	two      = uint64(0x4000000000000000)
	three    = uint64(0x4008000000000000)
)

// edges are numbers without a sign, from 0 to the greatest one: where kinds of
// numbers meet, and some with full and with few digits.
var edges = []uint64{
	0, 1, 2, 3, 5,
	0x0007ffffffffffff, 0x0008000000000000, 0x000fffffffffffff, // below the normal numbers
	0x0010000000000000, 0x0010000000000001, 0x001fffffffffffff, // the least normal ones
	0x0340000000000000, 0x0350000000000001, 0x0360000000000003, // whose misses are below the least number
	0x1e50000000000000, 0x1e60000000000000, 0x1e60000000000001, // whose squares are about the least number
	0x2000000000000000, 0x1fffffffffffffff,
	0x3c90000000000000, 0x3ca0000000000000, 0x3ca0000000000001, // half a digit of 1
	0x3fb999999999999a, 0x3fefffffffffffff, one, 0x3ff0000000000001, 0x3ff8000000000000,
	two, three, 0x4010000000000000, 0x4024000000000000,
	0x4340000000000000, 0x4340000000000001,
	0x5fefffffffffffff, 0x5ff0000000000000, 0x5ff0000000000001, // whose squares are about the greatest
	0x7c90000000000000, 0x7ca0000000000000, // half a digit of the greatest, a whole one
	0x7fdfffffffffffff, 0x7fe0000000000000, 0x7feffffffffffffe, greatest,
}

// nothings are bits that stand for no number.
var nothings = []uint64{
	0x7ff8000000000000, 0x7ff0000000000001, 0x7ff8000000000001, 0x7fffffffffffffff,
	0xfff8000000000000, 0xfff0000000000001, 0xfff7ffffffffffff, 0xffffffffffffffff,
}

// bothSigns answers each of the bits without a sign and with one.
func bothSigns(list []uint64) []uint64 {
	var all []uint64
	for _, x := range list {
		all = append(all, x, x|signBit)
	}
	return all
}

// everyKind answers bits of every kind there is.
func everyKind() []uint64 {
	all := bothSigns(append([]uint64{infinity}, edges...))
	return append(all, nothings...)
}

// scatter answers n bits that look like chance, the same ones each time; some
// of their exponents are drawn together so that sums mix.
func scatter(n int) []uint64 {
	list := make([]uint64, n)
	state := uint64(88172645463325252)
	for i := range list {
		state ^= state << 13
		state ^= state >> 7
		state ^= state << 17
		list[i] = state
		if i%3 == 1 {
			list[i] = state&^(uint64(0x7ff)<<52) | (uint64(0x3e0)+state>>59)<<52
		}
	}
	return list
}

func isFinite(x uint64) bool { return x&infinity != infinity }

func isZero(x uint64) bool { return x&^signBit == 0 }

func isInfinity(x uint64) bool { return x&^signBit == infinity }

func isNothing(x uint64) bool { return x&^signBit > infinity }

func hasSign(x uint64) bool { return x&signBit != 0 }

func fraction(x uint64) *big.Rat { return new(big.Rat).SetFloat64(math.Float64frombits(x)) }

// place counts the numbers in their order; both zeros have place 0.
func place(x uint64) int64 {
	if hasSign(x) {
		return -int64(x &^ signBit)
	}
	return int64(x)
}

func atPlace(p int64) uint64 {
	if p < 0 {
		return uint64(-p) | signBit
	}
	return uint64(p)
}

// compare answers the sign of an exact result less a finite number.
type compare func(finite *big.Rat) int

// against is compare, for infinities too.
func (c compare) against(x uint64) int {
	switch {
	case !isInfinity(x):
		return c(fraction(x))
	case hasSign(x):
		return 1
	}
	return -1
}

// isRounded says of got what the document says of down and up: it is on the
// right side of the exact result, and its neighbour is not.
func (c compare) isRounded(got uint64, up bool) bool {
	if isNothing(got) {
		return false
	}
	p := place(got)
	if up {
		return c.against(got) <= 0 && (p == place(infinity|signBit) || c.against(atPlace(p-1)) > 0)
	}
	return c.against(got) >= 0 && (p == place(infinity) || c.against(atPlace(p+1)) < 0)
}

func compareTo(exact *big.Rat) compare {
	return func(finite *big.Rat) int { return exact.Cmp(finite) }
}

func compareRoot(square *big.Rat) compare {
	return func(finite *big.Rat) int {
		if finite.Sign() < 0 {
			return 1
		}
		return square.Cmp(new(big.Rat).Mul(finite, finite))
	}
}
