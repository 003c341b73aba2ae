package dose

import (
	"math/big"
	"testing"
)

func checkRounded(t *testing.T, what string, a, b uint64, up bool, got uint64, exact compare) {
	t.Helper()
	if !exact.isRounded(got, up) {
		t.Errorf("P3: %s of %016x and %016x, up %t: %016x is not the exact result rounded", what, a, b, up, got)
	}
}

// checkPair holds Add, Mul and Div of two finite numbers against fractions.
func checkPair(t *testing.T, a, b uint64) {
	t.Helper()
	x, y := fraction(a), fraction(b)
	sum, product, quotient := new(big.Rat).Add(x, y), new(big.Rat).Mul(x, y), new(big.Rat)
	if !isZero(b) {
		quotient.Quo(x, y)
	}
	for _, up := range []bool{false, true} {
		checkRounded(t, "Add", a, b, up, Add(a, b, up), compareTo(sum))
		got := Mul(a, b, up)
		checkRounded(t, "Mul", a, b, up, got, compareTo(product))
		if hasSign(got) != (hasSign(a) != hasSign(b)) {
			t.Errorf("P5: Mul(%016x, %016x, %t) = %016x: the sign", a, b, up, got)
		}
		if isZero(b) {
			continue
		}
		got = Div(a, b, up)
		checkRounded(t, "Div", a, b, up, got, compareTo(quotient))
		if hasSign(got) != (hasSign(a) != hasSign(b)) {
			t.Errorf("P6: Div(%016x, %016x, %t) = %016x: the sign", a, b, up, got)
		}
	}
}

func TestP3Edges(t *testing.T) {
	all := bothSigns(edges)
	for _, a := range all {
		for _, b := range all {
			checkPair(t, a, b)
		}
	}
}

func TestP3Scattered(t *testing.T) {
	list := scatter(12000)
	for i := 1; i < len(list); i++ {
		if isFinite(list[i-1]) && isFinite(list[i]) {
			checkPair(t, list[i-1], list[i])
		}
	}
}

// Of numbers just above and below the least normal one, products and quotients
// lose digits, and what rounding to nearest missed is below the least number.
func TestP3TinyResults(t *testing.T) {
	for _, x := range scatter(1500) {
		low := x&0x800fffffffffffff | (x>>52&0x7f)<<52
		half := x>>3&0x800fffffffffffff | 0x3fe<<52
		checkPair(t, low, half)
		checkPair(t, low>>7, half)
		checkPair(t, low, x>>5&0x800fffffffffffff|0x430<<52)
		checkPair(t, x&0x800fffffffffffff|0x1f0<<52, half&^(0x7ff<<52)|0x1fd<<52)
	}
}

func TestP3Root(t *testing.T) {
	list := append(scatter(8000), edges...)
	for i := uint64(1); i < 300; i++ {
		list = append(list, i, Mul(one+i, one+i, true), Mul(one+i, one+i, false))
	}
	for _, a := range list {
		if a &^= signBit; !isFinite(a) || isZero(a) {
			continue
		}
		for _, up := range []bool{false, true} {
			if got := Root(a, up); !compareRoot(fraction(a)).isRounded(got, up) || hasSign(got) {
				t.Errorf("P3, P7: Root(%016x, %t) = %016x", a, up, got)
			}
		}
	}
}

func TestP3NoNumber(t *testing.T) {
	for _, up := range []bool{false, true} {
		for _, x := range nothings {
			if got := Root(x, up); got != noNumber {
				t.Errorf("P3: Root(%016x, %t) = %016x", x, up, got)
			}
			for _, y := range everyKind() {
				got := [6]uint64{Add(x, y, up), Add(y, x, up), Mul(x, y, up), Mul(y, x, up), Div(x, y, up), Div(y, x, up)}
				for _, g := range got {
					if g != 0x7ff8000000000000 {
						t.Errorf("P3: of %016x and %016x, up %t: %016x", x, y, up, got)
						break
					}
				}
			}
		}
	}
}

// A result is no number only as these very bits.
func TestOneNoNumber(t *testing.T) {
	for _, a := range everyKind() {
		for _, b := range everyKind() {
			for _, up := range []bool{false, true} {
				for _, got := range []uint64{Add(a, b, up), Mul(a, b, up), Div(a, b, up), Root(a, up)} {
					if isNothing(got) && got != 0x7ff8000000000000 {
						t.Errorf("of %016x and %016x, up %t: %016x", a, b, up, got)
					}
				}
			}
		}
	}
}

type pairCase struct{ a, b, down, up uint64 }

func checkCases(t *testing.T, what string, call func(a, b uint64, up bool) uint64, cases []pairCase) {
	t.Helper()
	for _, c := range cases {
		if down, up := call(c.a, c.b, false), call(c.a, c.b, true); down != c.down || up != c.up {
			t.Errorf("%s(%016x, %016x) = %016x, %016x, want %016x, %016x", what, c.a, c.b, down, up, c.down, c.up)
		}
	}
}

func negative(x uint64) uint64 { return x | signBit }

func TestP4Add(t *testing.T) {
	inf := infinity
	checkCases(t, "P4: Add", Add, []pairCase{
		{inf, inf, inf, inf},
		{negative(inf), negative(inf), negative(inf), negative(inf)},
		{inf, negative(inf), noNumber, noNumber},
		{negative(inf), inf, noNumber, noNumber},
		{0, 0, 0, 0},
		{negative(0), negative(0), negative(0), negative(0)},
		{0, negative(0), negative(0), 0},
		{negative(0), 0, negative(0), 0},
		{one, one, two, two},
		{1, 1, 2, 2},
		{1, negative(2), negative(1), negative(1)},
		{one, 1, one, one + 1},
		{negative(one), 1, negative(one), negative(one - 1)},
		{greatest, greatest, greatest, inf},
		{negative(greatest), negative(greatest), negative(inf), negative(greatest)},
		{greatest, 1, greatest, inf},
		{negative(greatest), negative(1), negative(inf), negative(greatest)},
		{greatest, negative(1), greatest - 1, greatest},
		{greatest, 0x7c90000000000000, greatest, inf}, // half a digit: to nearest that is an infinity
		{greatest, 0x7c8fffffffffffff, greatest, inf}, // less than half: to nearest the greatest
	})
	for _, x := range bothSigns(edges) {
		checkCases(t, "P4: Add", Add, []pairCase{
			{inf, x, inf, inf},
			{x, inf, inf, inf},
			{negative(inf), x, negative(inf), negative(inf)},
			{x, negative(inf), negative(inf), negative(inf)},
		})
		if !isZero(x) {
			checkCases(t, "P4: Add", Add, []pairCase{{x, x ^ signBit, negative(0), 0}, {x, 0, x, x}, {negative(0), x, x, x}})
		}
	}
}

func TestP5Mul(t *testing.T) {
	inf := infinity
	checkCases(t, "P5: Mul", Mul, []pairCase{
		{greatest, two, greatest, inf},
		{negative(greatest), two, negative(inf), negative(greatest)},
		{1, 1, 0, 1},
		{1, negative(1), negative(1), negative(0)},
		{negative(1), negative(1), 0, 1},
		{1, 0x3fe0000000000000, 0, 1}, // half of the least number: to nearest that is 0
		{1, 0x3fe8000000000000, 0, 1}, // more than half of it: to nearest that is the least
		{negative(1), 0x3fe0000000000000, negative(1), negative(0)},
		{3, 0x3fe0000000000000, 1, 2},
	})
	for _, a := range bothSigns([]uint64{0, inf}) {
		for _, b := range bothSigns(append([]uint64{inf}, edges...)) {
			want := a&^signBit | (a^b)&signBit
			if isZero(a) && isInfinity(b) || isInfinity(a) && isZero(b) {
				want = noNumber
			}
			checkCases(t, "P5: Mul", Mul, []pairCase{{a, b, want, want}, {b, a, want, want}})
		}
	}
}

func TestP6Div(t *testing.T) {
	inf := infinity
	checkCases(t, "P6: Div", Div, []pairCase{
		{one, three, 0x3fd5555555555555, 0x3fd5555555555556},
		{negative(one), three, 0xbfd5555555555556, 0xbfd5555555555555},
		{one, negative(three), 0xbfd5555555555556, 0xbfd5555555555555},
		{negative(one), negative(three), 0x3fd5555555555555, 0x3fd5555555555556},
		{greatest, 1, greatest, inf},
		{greatest, negative(1), negative(inf), negative(greatest)},
		{1, greatest, 0, 1},
		{1, negative(greatest), negative(1), negative(0)},
		{1, two, 0, 1},
		{3, two, 1, 2},
	})
	for _, a := range bothSigns([]uint64{0, inf}) {
		for _, b := range bothSigns(append([]uint64{inf}, edges...)) {
			sign := (a ^ b) & signBit
			by, over := a&^signBit|sign, (infinity-a&^signBit)|sign
			if b&^signBit == a&^signBit {
				by, over = noNumber, noNumber
			}
			checkCases(t, "P6: Div", Div, []pairCase{{a, b, by, by}, {b, a, over, over}})
		}
	}
}

func TestP7Root(t *testing.T) {
	for _, c := range []struct{ a, down, up uint64 }{
		{0, 0, 0},
		{negative(0), negative(0), negative(0)},
		{infinity, infinity, infinity},
		{negative(infinity), noNumber, noNumber},
		{two, 0x3ff6a09e667f3bcc, 0x3ff6a09e667f3bcd},
		{0x4010000000000000, two, two},
		{1, 0x1e60000000000000, 0x1e60000000000000},
		{2, 0x1e66a09e667f3bcc, 0x1e66a09e667f3bcd},
		{greatest, 0x5fefffffffffffff, 0x5ff0000000000000},
	} {
		if down, up := Root(c.a, false), Root(c.a, true); down != c.down || up != c.up {
			t.Errorf("P7: Root(%016x) = %016x, %016x, want %016x, %016x", c.a, down, up, c.down, c.up)
		}
	}
	for _, x := range edges {
		if isZero(x) {
			continue
		}
		for _, up := range []bool{false, true} {
			if got := Root(negative(x), up); got != noNumber {
				t.Errorf("P7: Root(%016x, %t) = %016x", negative(x), up, got)
			}
		}
	}
}
