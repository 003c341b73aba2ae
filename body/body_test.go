package body

import (
	"container/heap"
	"math"
	"math/big"
	"testing"

	"dose/bound"
	"dose/matrix"
	"dose/program"
)

func said(t *testing.T, text string) *program.Program {
	t.Helper()
	p, fault := program.Parse(text)
	if fault != nil {
		t.Fatalf("Parse(%q): reason %d, place %d", text, fault.Reason, fault.Place)
	}
	return p
}

func vector(numbers ...float64) intervals {
	v := matrix.New[bound.Interval](len(numbers), 1)
	for i, x := range numbers {
		v.Set(i, 0, bound.Interval{Lo: x, Hi: x})
	}
	return v
}

// power answers exp(x), but for a part of 2^-200 or so, as x is at most 16.
func power(x *big.Rat) *big.Rat {
	sum, term := new(big.Rat), big.NewRat(1, 1)
	for n := int64(1); n < 150; n++ {
		sum.Add(sum, term)
		term.Mul(term, new(big.Rat).Mul(x, big.NewRat(1, n)))
	}
	return sum
}

func holds(a bound.Interval, exact *big.Rat) bool {
	return new(big.Rat).SetFloat64(a.Lo).Cmp(exact) <= 0 && new(big.Rat).SetFloat64(a.Hi).Cmp(exact) >= 0
}

func TestExponentialOfOne(t *testing.T) {
	for _, x := range []float64{0, 0x1p-70, 1e-9, 0.1, 0.5, 1, 2, 3.7, 7, 8, 9, 16} {
		got := exponential(vector(x), vector(1)).At(0, 0)
		if !holds(got, power(new(big.Rat).SetFloat64(x))) || got.Hi-got.Lo > got.Lo*0x1p-46 {
			t.Errorf("exp(%v) is from %v to %v", x, got.Lo, got.Hi)
		}
	}
	if got := exponential(vector(0), vector(3)).At(0, 0); got != (bound.Interval{Lo: 3, Hi: 3}) {
		t.Errorf("exp(0) times 3 = %v", got)
	}
	if got := exponential(vector(8), vector(0)).At(0, 0); got != (bound.Interval{}) {
		t.Errorf("exp(8) times 0 = %v", got)
	}
}

// Powers of these matrices come to 0, so the series is a short sum.
func TestExponentialOfSteps(t *testing.T) {
	m := matrix.New[bound.Interval](3, 3)
	m.Set(1, 0, bound.Interval{Lo: 2, Hi: 2})
	m.Set(2, 1, bound.Interval{Lo: 3, Hi: 3})
	got := exponential(m, vector(1, 10, 100))
	for i, want := range []float64{1, 12, 133} {
		if got.At(i, 0) != (bound.Interval{Lo: want, Hi: want}) {
			t.Errorf("row %d is %v, want %v", i, got.At(i, 0), want)
		}
	}
}

// What cut leaves out is bounded by what it answers: of one cell, 1, that is
// exp(x) less the first terms.
func TestCut(t *testing.T) {
	for _, x := range []float64{0, 1e-30, 1e-3, 0.5, 1, 4, 9} {
		upper := func(y float64) uppers { return matrix.Map(vector(y), bound.Interval.Upper) }
		terms, rest := cut(upper(x), upper(1))
		exact := new(big.Rat).SetFloat64(x)
		left, term := power(exact), big.NewRat(1, 1)
		for n := range terms {
			left.Sub(left, term)
			term.Mul(term, new(big.Rat).Quo(exact, big.NewRat(int64(n+1), 1)))
		}
		if left.Cmp(new(big.Rat).SetFloat64(float64(rest))) > 0 || rest > 4*enough {
			t.Errorf("exp(%v) is cut behind %d terms, by %v", x, terms, rest)
		}
	}
}

// Small terms may be followed by greater ones, as long as the norm is great
// beside their number: what reaches the second row grows there.
func TestCutLate(t *testing.T) {
	m, first := matrix.New[bound.Upper](2, 2), matrix.New[bound.Upper](2, 1)
	m.Set(1, 0, 0x1p-80)
	m.Set(1, 1, 9)
	first.Set(0, 0, 1)
	if terms, rest := cut(m, first); terms < 17 || rest > 0x1p-64 {
		t.Errorf("cut behind %d terms, by %v", terms, rest)
	}
}

func TestNorm(t *testing.T) {
	m := matrix.New[bound.Upper](2, 2)
	m.Set(0, 0, 1)
	m.Set(0, 1, 4)
	m.Set(1, 0, 2)
	m.Set(1, 1, 0.5)
	if got := norm(m); got != 4.5 {
		t.Errorf("the norm is %v", got)
	}
}

// The fastest rate that leaves a compartment stands on the diagonal, less what
// leaves the compartment of that column: so all columns come to the same.
func TestRates(t *testing.T) {
	b := bodyOf(said(t, "central 1 L; out 1 /s; side 2 /s 8 /s; side 4 /s 16 /s; depot 32 /s;"))
	if b.fastest != (bound.Interval{Lo: 32, Hi: 32}) {
		t.Errorf("the fastest rate is %v", b.fastest)
	}
	want := map[[2]int]float64{
		{central, central}: 25, {gone, central}: 1, {side(1), central}: 2, {side(2), central}: 4,
		{gone, gone}: 32, {central, depot}: 32, {inflow, inflow}: 32,
		{side(1), side(1)}: 24, {central, side(1)}: 8, {side(2), side(2)}: 16, {central, side(2)}: 16,
	}
	for row := range 6 {
		for column := range 6 {
			if got, x := b.rates.At(row, column), want[[2]int{row, column}]; got != (bound.Interval{Lo: x, Hi: x}) {
				t.Errorf("row %d, column %d: %v, want %v", row, column, got, x)
			}
		}
	}
}

// A span of no time changes nothing, to the last bit.
func TestNoSpan(t *testing.T) {
	b := bodyOf(said(t, "central 1 L; out 0.3 /s; side 0.7 /s 0.1 /s; depot 999999 /s;"))
	start := vector(0.1, 1e-300, 3, 0, 1e20)
	after := b.after(bound.Interval{}, start)
	for i := range 5 {
		if after.At(i, 0) != start.At(i, 0) {
			t.Errorf("row %d is %v, was %v", i, after.At(i, 0), start.At(i, 0))
		}
	}
}

// Nothing is lost and nothing made: all amounts together hold what was there
// and what flowed in.
func TestAllIsKept(t *testing.T) {
	b := bodyOf(said(t, "central 1 L; out 0.3 /s; side 0.7 /s 0.1 /s; depot 0.2 /s;"))
	after := b.after(bound.Interval{Lo: 3, Hi: 3}, vector(5, 7, 11, 13, 17))
	after.Set(inflow, 0, bound.Interval{})
	sum := after.Sums()[0]
	if sum.Lo > 53 || sum.Hi < 53 || sum.Hi-sum.Lo > 1e-12 {
		t.Errorf("all amounts come to %v", sum)
	}
}

func TestQueue(t *testing.T) {
	var q queue
	var got []string
	for _, e := range []struct {
		at   int64
		rank int
		name string
	}{{5, reading, "e"}, {2, giving, "b"}, {2, reading, "c"}, {9, giving, "f"}, {0, reading, "a"}, {5, giving, "d"}, {9, reading, "g"}} {
		heap.Push(&q, event{big.NewRat(e.at, 3), e.rank, func() { got = append(got, e.name) }})
	}
	for q.Len() > 0 {
		heap.Pop(&q).(event).do()
	}
	for i, want := range []string{"a", "b", "c", "d", "e", "f", "g"} {
		if i >= len(got) || got[i] != want {
			t.Fatalf("the order is %v", got)
		}
	}
}

func TestAnswers(t *testing.T) {
	got := Answers(said(t, "central 2 L; out 0 /h; depot 0 /h; read level at 4 h in mg /L; read total at 3 h in mg; infuse 2 mg /h from 1 h to 3 h; dose 3 mg into depot at 2 h; read depot at 2 h in mg; read central at 2 h in mg;"))
	for i, want := range []float64{2, 7, 3, 2} {
		if i >= len(got) || got[i].Lo > want || got[i].Hi < want || got[i].Hi-got[i].Lo > 1e-12 || math.Signbit(got[i].Lo) {
			t.Fatalf("answers %v, number %d should hold %v", got, i+1, want)
		}
	}
}
