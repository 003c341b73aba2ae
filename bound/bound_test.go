package bound

import (
	"math"
	"math/big"
	"testing"
)

func fraction(x float64) *big.Rat { return new(big.Rat).SetFloat64(x) }

func holds(a Interval, exact *big.Rat) bool {
	return fraction(a.Lo).Cmp(exact) <= 0 && fraction(a.Hi).Cmp(exact) >= 0
}

// samples are fractions of many sizes, most of them no float64.
func samples() []*big.Rat {
	list := []*big.Rat{new(big.Rat), big.NewRat(1, 1), big.NewRat(2, 1), big.NewRat(1, 1<<40)}
	for _, n := range []int64{1, 3, 7, 10, 999999, 1e12 + 1} {
		for _, d := range []int64{3, 9, 10, 86400, 100000, 1e15 - 1} {
			list = append(list, big.NewRat(n, d))
		}
	}
	return list
}

func TestOf(t *testing.T) {
	for _, exact := range samples() {
		a := Of(exact)
		if !holds(a, exact) || math.Nextafter(a.Lo, math.Inf(1)) < a.Hi {
			t.Errorf("Of(%s) = %v", exact, a)
		}
		if near, whole := exact.Float64(); whole && (a.Lo != near || a.Hi != near || math.Signbit(a.Lo)) {
			t.Errorf("Of(%s) = %v is not exact", exact, a)
		}
	}
}

func TestPart(t *testing.T) {
	for n := 1; n < 200; n++ {
		if a := Part(n); !holds(a, big.NewRat(1, int64(n))) || math.Nextafter(a.Lo, math.Inf(1)) < a.Hi {
			t.Errorf("Part(%d) = %v", n, a)
		}
	}
	if One() != (Interval{1, 1}) || Part(1) != One() || Part(4) != (Interval{0.25, 0.25}) {
		t.Errorf("parts: %v, %v, %v", One(), Part(1), Part(4))
	}
}

// What comes out holds the exact result of all that went in, and is narrow.
func TestIntervals(t *testing.T) {
	narrow := func(a Interval) bool { return a.Hi <= a.Lo*(1+0x1p-49) }
	for _, x := range samples() {
		for _, y := range samples() {
			a, b := Of(x), Of(y)
			if sum := a.Plus(b); !holds(sum, new(big.Rat).Add(x, y)) || !narrow(sum) {
				t.Errorf("%s plus %s = %v", x, y, sum)
			}
			if product := a.Times(b); !holds(product, new(big.Rat).Mul(x, y)) || !narrow(product) {
				t.Errorf("%s times %s = %v", x, y, product)
			}
			if y.Sign() == 0 {
				continue
			}
			if quotient := a.Over(b); !holds(quotient, new(big.Rat).Quo(x, y)) || !narrow(quotient) {
				t.Errorf("%s over %s = %v", x, y, quotient)
			}
		}
	}
}

// The ends are taken with the ends that make the result least and greatest.
func TestWideIntervals(t *testing.T) {
	a, b := Interval{1, 6}, Interval{2, 4}
	if got := a.Plus(b); got != (Interval{3, 10}) {
		t.Errorf("the sum is %v", got)
	}
	if got := a.Times(b); got != (Interval{2, 24}) {
		t.Errorf("the product is %v", got)
	}
	if got := a.Over(b); got != (Interval{0.25, 3}) {
		t.Errorf("the quotient is %v", got)
	}
	if got := a.Upper(); got != 6 {
		t.Errorf("the upper end is %v", got)
	}
}

// What is too small for a float64 is not lost above, nor made up below.
func TestTinyIntervals(t *testing.T) {
	least := math.SmallestNonzeroFloat64
	tiny := Interval{least, least}
	if got := tiny.Times(tiny); got != (Interval{0, least}) || math.Signbit(got.Lo) {
		t.Errorf("the product is %v", got)
	}
	if got := Upper(least).Times(Upper(least)); got != Upper(least) {
		t.Errorf("the product is %v", got)
	}
}

func TestUppers(t *testing.T) {
	for _, x := range samples() {
		for _, y := range samples() {
			a, b := Of(x).Upper(), Of(y).Upper()
			if sum := a.Plus(b); fraction(float64(sum)).Cmp(new(big.Rat).Add(x, y)) < 0 || sum > (a+b)*(1+0x1p-50) {
				t.Errorf("%s plus %s = %v", x, y, sum)
			}
			if product := a.Times(b); fraction(float64(product)).Cmp(new(big.Rat).Mul(x, y)) < 0 || product > a*b*(1+0x1p-50) {
				t.Errorf("%s times %s = %v", x, y, product)
			}
		}
	}
}
