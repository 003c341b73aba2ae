package body

import "math/big"

// event is what happens at a time. Where two are at one time, the one with the
// lower rank goes first.
type event struct {
	at   *big.Rat
	rank int
	do   func()
}

const (
	giving  = iota
	reading // behind all that is given at that very time
)

// queue is a heap of events, the next one first.
type queue []event

func (q queue) Len() int { return len(q) }

func (q queue) Less(i, j int) bool {
	if order := q[i].at.Cmp(q[j].at); order != 0 {
		return order < 0
	}
	return q[i].rank < q[j].rank
}

func (q queue) Swap(i, j int) { q[i], q[j] = q[j], q[i] }

// Push is for package heap, as is Pop.
func (q *queue) Push(e any) { *q = append(*q, e.(event)) }

func (q *queue) Pop() any {
	last := len(*q) - 1
	e := (*q)[last]
	*q = (*q)[:last]
	return e
}
