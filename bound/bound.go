// Package bound: numbers that bound what cannot be told exactly. None of them
// is below 0, so that a sum or a product of lower ends is a lower end, and of
// upper ends an upper one.
package bound

import (
	"math/big"

	"dose/round"
)

// Interval is all numbers from Lo to Hi.
type Interval struct{ Lo, Hi float64 }

// Of answers the narrowest interval that holds a fraction.
func Of(exact *big.Rat) Interval {
	near, _ := exact.Float64()
	return Interval{round.Fraction(exact, near, false), round.Fraction(exact, near, true)}
}

// One answers 1, which is exact.
func One() Interval { return Interval{1, 1} }

// Part answers one part of n.
func Part(n int) Interval {
	whole := float64(n)
	return One().Over(Interval{whole, whole})
}

// Plus answers what the sums of numbers of the two lie in.
func (a Interval) Plus(b Interval) Interval {
	return Interval{round.Sum(a.Lo, b.Lo, false), round.Sum(a.Hi, b.Hi, true)}
}

// Times answers what the products lie in.
func (a Interval) Times(b Interval) Interval {
	return Interval{round.Product(a.Lo, b.Lo, false), round.Product(a.Hi, b.Hi, true)}
}

// Over answers what the quotients lie in; b has no 0 in it.
func (a Interval) Over(b Interval) Interval {
	return Interval{round.Quotient(a.Lo, b.Hi, false), round.Quotient(a.Hi, b.Lo, true)}
}

// Upper answers the upper end.
func (a Interval) Upper() Upper { return Upper(a.Hi) }

// Upper is a number that is not below what it stands for.
type Upper float64

// Plus answers a sum, rounded up.
func (a Upper) Plus(b Upper) Upper { return Upper(round.Sum(float64(a), float64(b), true)) }

// Times answers a product, rounded up.
func (a Upper) Times(b Upper) Upper { return Upper(round.Product(float64(a), float64(b), true)) }
