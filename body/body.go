// Package body: what a body holds of a drug at the times that a program asks
// for, as bounds.
package body

import (
	"math/big"
	"slices"

	"dose/bound"
	"dose/matrix"
	"dose/program"
)

// Compartments, by their row in a vector of amounts; the sides come behind
// them. A body without a depot has one that stays empty.
const (
	central = iota
	gone
	depot
	inflow // what infusions give within the span of time that is gone through
	fixed  // how many these are
)

func side(number int) int { return fixed + number - 1 }

func size(said *program.Program) int { return fixed + len(said.Sides) }

// body is the rates at which a drug flows, a column for where it comes from and
// a row for where it goes. In truth what leaves a compartment stands on the
// diagonal, with a sign. Here the fastest of these rates is added to the
// diagonal, so that no cell is below 0, nothing cancels, and bounds stay narrow.
type body struct {
	rates   intervals
	fastest bound.Interval
}

func bodyOf(said *program.Program) body {
	flows := flowsOf(said)
	leaving := leavingOf(flows, size(said))
	fastest := slices.MaxFunc(leaving, (*big.Rat).Cmp)
	rates := matrix.New[bound.Interval](len(leaving), len(leaving))
	for i, rate := range leaving {
		rates.Set(i, i, bound.Of(new(big.Rat).Sub(fastest, rate)))
	}
	for _, f := range flows {
		rates.Set(f.to, f.from, bound.Of(f.rate))
	}
	return body{rates, bound.Of(fastest)}
}

// flow is a rate from one compartment to another.
type flow struct {
	from, to int
	rate     *big.Rat
}

func flowsOf(said *program.Program) []flow {
	flows := []flow{{central, gone, said.Out}}
	for i, s := range said.Sides {
		flows = append(flows, flow{central, side(i + 1), s.There}, flow{side(i + 1), central, s.Back})
	}
	if said.Depot != nil {
		flows = append(flows, flow{depot, central, said.Depot})
	}
	return flows
}

// leavingOf answers, for each compartment, the rates of all that flows from it.
func leavingOf(flows []flow, size int) []*big.Rat {
	leaving := make([]*big.Rat, size)
	for i := range leaving {
		leaving[i] = new(big.Rat)
	}
	for _, f := range flows {
		leaving[f.from].Add(leaving[f.from], f.rate)
	}
	return leaving
}

// after answers the amounts behind a span of time, which is the unit of time
// here: so the inflow adds just what it is. Adding the fastest rate to the
// diagonal has made all of them greater by one factor: that is taken off.
func (b body) after(span bound.Interval, amounts intervals) intervals {
	flown := b.rates.Scaled(span)
	flown.Set(central, inflow, bound.One())
	factor := exponential(cell(b.fastest.Times(span)), cell(bound.One())).At(0, 0)
	return exponential(flown, amounts).Scaled(bound.One().Over(factor))
}

// cell answers a matrix of one cell.
func cell(x bound.Interval) intervals {
	m := matrix.New[bound.Interval](1, 1)
	m.Set(0, 0, x)
	return m
}
