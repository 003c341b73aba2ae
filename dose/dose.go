// Package dose: bounds for what a body holds of a drug: see DOC.md.
package dose

import (
	"math"

	"dose/body"
	"dose/program"
	"dose/round"
)

// Errno is what a call answers: OK or the reason for a refusal.
type Errno int

const (
	OK       Errno = 0
	ErrLong  Errno = 1 // a text above its bound
	ErrForm  Errno = 2 // no decimal, no program
	ErrUnit  Errno = 3 // a unit of another kind
	ErrNone  Errno = 4 // a side or a depot that there is not
	ErrZero  Errno = 5 // a volume of nothing
	ErrTime  Errno = 6 // an infusion that ends ahead of its beginning
	ErrStiff Errno = 7 // too much turnover
)

const noNumber uint64 = 0x7ff8000000000000

const maxProgram = 600

// Range is two ends, as the bits of 64-bit floating-point numbers.
type Range struct{ Lo, Hi uint64 }

// Add answers the sum, rounded down or up (P3, P4).
func Add(a uint64, b uint64, up bool) uint64 {
	return bitsOf(round.Sum(math.Float64frombits(a), math.Float64frombits(b), up))
}

// Mul answers the product, rounded down or up (P3, P5).
func Mul(a uint64, b uint64, up bool) uint64 {
	return bitsOf(round.Product(math.Float64frombits(a), math.Float64frombits(b), up))
}

// Div answers the quotient, rounded down or up (P3, P6).
func Div(a uint64, b uint64, up bool) uint64 {
	return bitsOf(round.Quotient(math.Float64frombits(a), math.Float64frombits(b), up))
}

// Root answers the square root, rounded down or up (P3, P7).
func Root(a uint64, up bool) uint64 {
	return bitsOf(round.Root(math.Float64frombits(a), up))
}

// Decimal answers what a text says, rounded down or up (P8).
func Decimal(text string, up bool) (uint64, Errno) {
	if len(text) > maxText {
		return 0, ErrLong
	}
	exact, ok := exactly(text)
	if !ok {
		return 0, ErrForm
	}
	return bitsOf(round.Fraction(exact, nearest(text), up)), OK
}

// Print writes a program out in one way (P9 to P11).
func Print(program string) (string, Errno, int) {
	said, e, place := parse(program)
	if e != OK {
		return "", e, place
	}
	return said.Text(), OK, 0
}

// Solve bounds the answers to a program's reads (P12 to P15).
func Solve(program string) ([]Range, Errno, int) {
	said, e, place := parse(program)
	if e != OK {
		return nil, e, place
	}
	var ranges []Range
	for _, answer := range body.Answers(said) {
		ranges = append(ranges, Range{bitsOf(answer.Lo), bitsOf(answer.Hi)})
	}
	return ranges, OK, 0
}

// parse answers what a program says, or what is wrong with it, and where (P9).
func parse(text string) (*program.Program, Errno, int) {
	if len(text) > maxProgram {
		return nil, ErrLong, 0
	}
	said, fault := program.Parse(text)
	if fault != nil {
		return nil, errnoOf(fault.Reason), fault.Place
	}
	return said, OK, 0
}

func errnoOf(reason program.Reason) Errno {
	switch reason {
	case program.Unit:
		return ErrUnit
	case program.None:
		return ErrNone
	case program.Zero:
		return ErrZero
	case program.Time:
		return ErrTime
	case program.Stiff:
		return ErrStiff
	}
	return ErrForm
}

// bitsOf answers one and the same bits for all that is no number: which ones
// arithmetic makes differs from machine to machine.
func bitsOf(x float64) uint64 {
	if math.IsNaN(x) {
		return noNumber
	}
	return math.Float64bits(x)
}
