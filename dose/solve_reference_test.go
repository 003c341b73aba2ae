package dose

import (
	"math/big"
	"strconv"
)

// What a program asks for is told here apart from the program's own way: from
// the lines of the print reference, and for each dose and each infusion alone,
// by the series of the rates as they are, in numbers of many digits.

const (
	digits = 320 // bits of a number
	terms  = 140 // of a series: the rates come to 16 at most, with both signs, and 16^140/140! is below 2^-240
)

// slack is the part of all mass by which the reference may be wrong.
var slack = new(big.Rat).SetFrac(big.NewInt(1), new(big.Int).Lsh(big.NewInt(1), 200))

// limit is what P15 allows, as a part of all mass.
var limit = big.NewRat(1, 1<<20)

type wantedFlow struct {
	from, to string
	rate     *big.Float // by the second
}

type wantedGift struct {
	into     string
	mass     *big.Rat // in µg, by the second if it is an infusion
	from, to *big.Rat // in s; to is nil if it is a dose
}

type wantedRead struct {
	what string
	at   *big.Rat
	unit *big.Rat // in µg
}

// world is what a program says, with compartments by their names.
type world struct {
	flows []wantedFlow
	gifts []wantedGift
	reads []wantedRead
	mass  *big.Rat // all there is
}

func long(x *big.Rat) *big.Float { return new(big.Float).SetPrec(digits).SetRat(x) }

func zero() *big.Float { return new(big.Float).SetPrec(digits) }

// sized answers the number at a place in a line, by the size of a unit.
func sized(line []piece, number, unit int, kind string) *big.Rat {
	x, _ := new(big.Rat).SetString(line[number].text)
	return x.Mul(x, big.NewRat(unitSizes[kind][line[unit].text], 1))
}

func perTime(line []piece, number int) *big.Float {
	x, _ := new(big.Rat).SetString(line[number].text)
	return long(x.Quo(x, big.NewRat(unitSizes["TIME"][line[number+2].text], 1)))
}

func worldOf(program string) world {
	lines, _, _ := wantedLines(program)
	w := world{mass: new(big.Rat)}
	sides := 0
	for _, line := range lines {
		switch line[0].text {
		case "out":
			w.flows = append(w.flows, wantedFlow{"central", "gone", perTime(line, 1)})
		case "side":
			sides++
			name := "side " + strconv.Itoa(sides)
			w.flows = append(w.flows, wantedFlow{"central", name, perTime(line, 1)}, wantedFlow{name, "central", perTime(line, 4)})
		case "depot":
			w.flows = append(w.flows, wantedFlow{"depot", "central", perTime(line, 1)})
		case "dose":
			w.give(wantedGift{line[4].text, sized(line, 1, 2, "MASS"), sized(line, 6, 7, "TIME"), nil})
		case "infuse":
			speed := sized(line, 1, 2, "MASS")
			speed.Quo(speed, big.NewRat(unitSizes["TIME"][line[4].text], 1))
			w.give(wantedGift{"central", speed, sized(line, 6, 7, "TIME"), sized(line, 9, 10, "TIME")})
		case "read":
			w.reads = append(w.reads, readOf(line, sized(lines[0], 1, 2, "VOLUME")))
		}
	}
	return w
}

func (w *world) give(g wantedGift) {
	w.gifts = append(w.gifts, g)
	mass := g.mass
	if g.to != nil {
		mass = new(big.Rat).Mul(g.mass, new(big.Rat).Sub(g.to, g.from))
	}
	w.mass.Add(w.mass, mass)
}

func readOf(line []piece, volume *big.Rat) wantedRead {
	r := wantedRead{what: line[1].text}
	if r.what == "side" {
		n, _ := strconv.ParseFloat(line[2].text, 64)
		r.what = "side " + strconv.Itoa(int(n))
		line = line[1:]
	}
	r.at = sized(line, 3, 4, "TIME")
	r.unit = big.NewRat(unitSizes["MASS"][line[6].text], 1)
	if r.what == "level" {
		r.what = "central"
		r.unit.Mul(r.unit, volume)
		r.unit.Quo(r.unit, big.NewRat(unitSizes["VOLUME"][line[8].text], 1))
	}
	return r
}

// spread answers where 1 that was put in is after a span: the sum of the terms
// m^n span^n / n!; or, if it flows in by the second, that of m^n span^(n+1) / (n+1)!.
func (w world) spread(into string, span *big.Rat, flowing bool) map[string]*big.Float {
	first, t := 0, long(span)
	term := map[string]*big.Float{into: long(big.NewRat(1, 1))}
	if flowing {
		first, term[into] = 1, long(span)
	}
	sum := map[string]*big.Float{}
	for n := first + 1; n <= terms; n++ {
		next := map[string]*big.Float{}
		for name, x := range term {
			add(sum, name, x)
		}
		for _, f := range w.flows {
			if term[f.from] == nil {
				continue
			}
			x := zero().Mul(f.rate, term[f.from])
			x.Quo(x.Mul(x, t), long(big.NewRat(int64(n), 1)))
			add(next, f.to, x)
			add(next, f.from, zero().Neg(x))
		}
		term = next
	}
	return sum
}

func add(to map[string]*big.Float, name string, x *big.Float) {
	if to[name] == nil {
		to[name] = zero()
	}
	to[name].Add(to[name], x)
}

// amount answers what a gift comes to at a time, in the compartment of a name.
func (w world) amount(g wantedGift, name string, at *big.Rat) *big.Rat {
	span := new(big.Rat).Sub(at, g.from)
	if span.Sign() < 0 {
		return new(big.Rat)
	}
	part := fractionOf(w.spread(g.into, span, g.to != nil)[name])
	if g.to != nil && g.to.Cmp(at) < 0 {
		// One that never ends, less one that begins at its end.
		part.Sub(part, fractionOf(w.spread(g.into, new(big.Rat).Sub(at, g.to), true)[name]))
	}
	return part.Mul(part, g.mass)
}

// given answers what a gift has given by a time.
func (g wantedGift) given(at *big.Rat) *big.Rat {
	switch {
	case at.Cmp(g.from) < 0:
		return new(big.Rat)
	case g.to == nil:
		return g.mass
	case at.Cmp(g.to) > 0:
		at = g.to
	}
	return new(big.Rat).Mul(g.mass, new(big.Rat).Sub(at, g.from))
}

func fractionOf(x *big.Float) *big.Rat {
	if x == nil {
		return new(big.Rat)
	}
	exact, _ := x.Rat(nil)
	return exact
}

// truth answers what a read asks for, in its unit, but for the slack.
func (w world) truth(r wantedRead) *big.Rat {
	sum := new(big.Rat)
	for _, g := range w.gifts {
		if r.what == "total" {
			sum.Add(sum, g.given(r.at))
		} else {
			sum.Add(sum, w.amount(g, r.what, r.at))
		}
	}
	return sum.Quo(sum, r.unit)
}
