// Package round: arithmetic on float64 that is rounded down or up on purpose.
//
// Each function takes the result rounded to nearest and the sign of what it
// missed, and steps to the neighbour where that lies on the wrong side.
package round

import (
	"math"
	"math/big"
)

// Sum answers a + b, rounded down or up.
func Sum(a, b float64, up bool) float64 {
	near := a + b
	switch {
	case math.IsNaN(near) || math.IsInf(a, 0) || math.IsInf(b, 0):
		return near
	case near == 0:
		return zeroSum(a, b, up)
	}
	return Directed(near, missOfSum(a, b, near), up)
}

// Product answers a times b, rounded down or up.
func Product(a, b float64, up bool) float64 {
	near := a * b
	if !ordinary(a) || !ordinary(b) {
		return near
	}
	return Directed(near, missOfProduct(a, b, near), up)
}

// Quotient answers a by b, rounded down or up.
func Quotient(a, b float64, up bool) float64 {
	near := a / b
	if !ordinary(a) || !ordinary(b) {
		return near
	}
	return Directed(near, missOfQuotient(a, b, near), up)
}

// Root answers the square root of a, rounded down or up.
func Root(a float64, up bool) float64 {
	near := math.Sqrt(a)
	if !ordinary(a) || a < 0 {
		return near
	}
	return Directed(near, missOfRoot(a, near), up)
}

// Fraction answers a fraction, rounded down or up, of which near is the nearest
// number. (A fraction has no zero with a sign: near may be one.)
func Fraction(exact *big.Rat, near float64, up bool) float64 {
	return Directed(near, missOfFraction(exact, near), up)
}

// Directed answers the number that an exact result is rounded to, down or up:
// near is that result rounded to nearest, and miss has the sign of the exact
// result less near.
func Directed(near, miss float64, up bool) float64 {
	switch {
	case up && miss > 0:
		return math.Nextafter(near, math.Inf(1))
	case !up && miss < 0:
		return math.Nextafter(near, math.Inf(-1))
	}
	return near
}

// ordinary tells the numbers whose products, quotients and roots may be
// inexact: of zeros and infinities they are exact, or no number.
func ordinary(x float64) bool {
	return x != 0 && !math.IsInf(x, 0) && !math.IsNaN(x)
}

// zeroSum gives the sum its sign where a and b cancel.
func zeroSum(a, b float64, up bool) float64 {
	if math.Signbit(a) == math.Signbit(b) {
		return a
	}
	if up {
		return 0
	}
	return math.Copysign(0, -1)
}

// missOfSum answers a + b - near. With the greater one first both differences
// are exact; and where near overflowed, they make an infinity of the right sign.
func missOfSum(a, b, near float64) float64 {
	if math.Abs(a) < math.Abs(b) {
		a, b = b, a
	}
	return b - (near - a)
}

// missOfProduct has the sign of a b - near. The fractions stand in for a and b
// so that the miss of a tiny product doesn't itself become 0.
func missOfProduct(a, b, near float64) float64 {
	x, i := math.Frexp(a)
	y, j := math.Frexp(b)
	return math.FMA(x, y, -math.Ldexp(near, -i-j))
}

// missOfQuotient has the sign of a / b - near, which is that of a - near b if b
// is above 0, and else the other one.
func missOfQuotient(a, b, near float64) float64 {
	x, i := math.Frexp(a)
	y, j := math.Frexp(b)
	rest := math.FMA(-math.Ldexp(near, j-i), y, x)
	if y < 0 {
		return -rest
	}
	return rest
}

// missOfRoot has the sign of the root of a less near, which is that of
// a - near near. The exponent is made even so that it can be halved.
func missOfRoot(a, near float64) float64 {
	x, i := math.Frexp(a)
	if i%2 != 0 {
		x, i = 2*x, i-1
	}
	y := math.Ldexp(near, -i/2)
	return math.FMA(-y, y, x)
}

// missOfFraction has the sign of exact less near.
func missOfFraction(exact *big.Rat, near float64) float64 {
	if math.IsInf(near, 0) {
		return -near
	}
	return float64(exact.Cmp(new(big.Rat).SetFloat64(near)))
}
