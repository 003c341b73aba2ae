package body

import (
	"container/heap"
	"math/big"

	"dose/bound"
	"dose/matrix"
	"dose/program"
)

// run is a body as it goes from event to event. What was given is kept exactly,
// so that nothing is left of an infusion that has ended.
type run struct {
	body    body
	now     *big.Rat
	amounts intervals
	speed   *big.Rat // of all infusions that go on
	given   *big.Rat
	next    queue
	answers []bound.Interval
}

// Answers bounds what the reads of a program ask for, in their order.
func Answers(said *program.Program) []bound.Interval {
	r := run{
		body:    bodyOf(said),
		now:     new(big.Rat),
		amounts: matrix.New[bound.Interval](size(said), 1),
		speed:   new(big.Rat),
		given:   new(big.Rat),
		answers: make([]bound.Interval, len(said.Reads)),
	}
	r.plan(said)
	for r.next.Len() > 0 {
		e := heap.Pop(&r.next).(event)
		r.goTo(e.at)
		e.do()
	}
	return r.answers
}

func (r *run) plan(said *program.Program) {
	for _, d := range said.Doses {
		r.push(d.At.Value, giving, func() { r.dose(d) })
	}
	for _, i := range said.Infusions {
		r.push(i.From.Value, giving, func() { r.infuse(i) })
	}
	for i, read := range said.Reads {
		r.push(read.At.Value, reading, func() { r.answers[i] = r.read(said, read) })
	}
}

func (r *run) push(at *big.Rat, rank int, do func()) {
	heap.Push(&r.next, event{at, rank, do})
}

// goTo lets the drug flow until a time.
func (r *run) goTo(at *big.Rat) {
	span := new(big.Rat).Sub(at, r.now)
	mass := new(big.Rat).Mul(r.speed, span)
	r.amounts.Set(inflow, 0, bound.Of(mass))
	r.amounts = r.body.after(bound.Of(span), r.amounts)
	r.given.Add(r.given, mass)
	r.now = at
}

func (r *run) dose(d program.Dose) {
	into := central
	if d.Into == program.Depot {
		into = depot
	}
	r.amounts.Set(into, 0, r.amounts.At(into, 0).Plus(bound.Of(d.Mass.Value)))
	r.given.Add(r.given, d.Mass.Value)
}

// infuse begins an infusion, and sees to its end.
func (r *run) infuse(i program.Infusion) {
	r.speed.Add(r.speed, i.Speed)
	r.push(i.To.Value, giving, func() { r.speed.Sub(r.speed, i.Speed) })
}

func (r *run) read(said *program.Program, asked program.Read) bound.Interval {
	unit := asked.Unit
	if asked.What == program.Level {
		unit = new(big.Rat).Mul(unit, said.Volume.Value)
	}
	if asked.What == program.Total {
		return bound.Of(new(big.Rat).Quo(r.given, unit))
	}
	return r.amounts.At(row(asked), 0).Over(bound.Of(unit))
}

// row answers where the amount stands that is asked for.
func row(asked program.Read) int {
	switch asked.What {
	case program.Side:
		return side(int(asked.Side.Value.Num().Int64()))
	case program.Depot:
		return depot
	case program.Gone:
		return gone
	}
	return central
}
