package program

import (
	"math/big"
	"slices"
)

const maxTurns = 8

// faultOf answers what is wrong with what a text means, if something is.
func faultOf(said *Program) *Fault {
	faults := slices.Concat(zeroFaults(said), noneFaults(said), timeFaults(said))
	if len(faults) > 0 {
		least := slices.MinFunc(faults, func(a, b Fault) int { return a.Place - b.Place })
		return &least
	}
	if turns(said).Cmp(big.NewRat(maxTurns, 1)) > 0 {
		return &Fault{Stiff, 0}
	}
	return nil
}

func zeroFaults(said *Program) []Fault {
	if said.Volume.Value.Sign() == 0 {
		return []Fault{{Zero, said.Volume.Place}}
	}
	return nil
}

func noneFaults(said *Program) []Fault {
	var faults []Fault
	for _, d := range said.Doses {
		if d.Into == Depot && said.Depot == nil {
			faults = append(faults, Fault{None, d.Place})
		}
	}
	for _, r := range said.Reads {
		switch {
		case r.What == Depot && said.Depot == nil:
			faults = append(faults, Fault{None, r.Place})
		case r.What == Side && !hasSide(said, r.Side.Value):
			faults = append(faults, Fault{None, r.Side.Place})
		}
	}
	return faults
}

func hasSide(said *Program, n *big.Rat) bool {
	last := big.NewRat(int64(len(said.Sides)), 1)
	return n.IsInt() && n.Sign() > 0 && n.Cmp(last) <= 0
}

func timeFaults(said *Program) []Fault {
	var faults []Fault
	for _, i := range said.Infusions {
		if i.To.Value.Cmp(i.From.Value) <= 0 {
			faults = append(faults, Fault{Time, i.To.Place})
		}
	}
	return faults
}

// turns answers all rates, added up, times the latest time.
func turns(said *Program) *big.Rat {
	sum := new(big.Rat)
	for _, k := range rates(said) {
		sum.Add(sum, k)
	}
	return sum.Mul(sum, latest(said))
}

func rates(said *Program) []*big.Rat {
	all := []*big.Rat{said.Out}
	for _, s := range said.Sides {
		all = append(all, s.There, s.Back)
	}
	if said.Depot != nil {
		all = append(all, said.Depot)
	}
	return all
}

func latest(said *Program) *big.Rat {
	last := new(big.Rat)
	for _, at := range times(said) {
		if at.Value.Cmp(last) > 0 {
			last = at.Value
		}
	}
	return last
}

func times(said *Program) []Number {
	var all []Number
	for _, d := range said.Doses {
		all = append(all, d.At)
	}
	for _, i := range said.Infusions {
		all = append(all, i.From, i.To)
	}
	for _, r := range said.Reads {
		all = append(all, r.At)
	}
	return all
}
