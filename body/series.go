package body

import (
	"slices"

	"dose/bound"
	"dose/matrix"
)

type (
	intervals = matrix.Matrix[bound.Interval]
	uppers    = matrix.Matrix[bound.Upper]
)

// enough is the part of all there is below which terms may be left out.
const enough = 0x1p-64

// exponential answers exp(m) times a vector: the series v + m v + m m v / 2 +
// m m m v / 6 and so on. Its first terms are added up from the last one on, so
// that none of them need be kept; the others lie between 0 and a bound.
func exponential(m, vector intervals) intervals {
	terms, rest := cut(matrix.Map(m, bound.Interval.Upper), matrix.Map(vector, bound.Interval.Upper))
	sum := vector
	for n := terms - 1; n > 0; n-- {
		sum = vector.Plus(m.Times(sum).Scaled(bound.Part(n)))
	}
	return matrix.Map(sum, func(x bound.Interval) bound.Interval {
		return x.Plus(bound.Interval{Hi: float64(rest)})
	})
}

// cut answers how many terms of the series are to be added up, and a bound for
// the sum of all others. Where n + 1 is at least twice the norm of m, each term
// behind term n comes to at most half of the one ahead of it, and all of them
// to no more than term n: that one counts twice. There is such an n, since a
// body's rates, times a span, come to 8 at most, and the norm to 9 or so.
func cut(m, vector uppers) (int, bound.Upper) {
	small, twice := enough*norm(vector), 2*norm(m)
	term := vector
	for n := 1; ; n++ {
		term = m.Times(term).Scaled(bound.Part(n).Upper())
		left := norm(term)
		if left <= small && twice <= bound.Upper(n+1) {
			return n, left.Plus(left)
		}
	}
}

// norm answers the greatest sum of a column. A product's norm is not above the
// product of the norms.
func norm(m uppers) bound.Upper { return slices.Max(m.Sums()) }
