package program

import (
	"math/big"
	"slices"
)

const (
	maxSides     = 3
	maxDoses     = 8
	maxInfusions = 3
	maxReads     = 8
)

// parser goes through tokens from the left. At its first fault it panics, so
// that what calls it need not ask after each token: parsed catches that.
type parser struct{ rest []token }

// parsed answers what tokens say, or the fault at which they were left.
func parsed(tokens []token) (said *Program, fault *Fault) {
	defer func() {
		switch caught := recover().(type) {
		case nil:
		case *Fault:
			said, fault = nil, caught
		default:
			panic(caught)
		}
	}()
	p := parser{tokens}
	return p.program(), nil
}

func (p *parser) program() *Program {
	var said Program
	p.take(Central)
	said.Volume = p.measured(volume)
	p.take(";")
	p.take("out")
	said.Out = p.rate()
	p.take(";")
	for p.sees(Side) && len(said.Sides) < maxSides {
		said.Sides = append(said.Sides, p.side())
		p.take(";")
	}
	if p.sees(Depot) {
		p.take(Depot)
		said.Depot = p.rate()
		p.take(";")
	}
	for p.line(&said) {
		p.take(";")
	}
	p.check(p.rest[0].kind == end)
	return &said
}

// line adds a line to what is said, unless none can begin here.
func (p *parser) line(said *Program) bool {
	switch {
	case p.sees("dose") && len(said.Doses) < maxDoses:
		said.Doses = append(said.Doses, p.dose())
	case p.sees("infuse") && len(said.Infusions) < maxInfusions:
		said.Infusions = append(said.Infusions, p.infusion())
	case p.sees("read") && len(said.Reads) < maxReads:
		said.Reads = append(said.Reads, p.read())
	default:
		return false
	}
	return true
}

func (p *parser) side() Exchange {
	p.take(Side)
	return Exchange{There: p.rate(), Back: p.rate()}
}

func (p *parser) dose() Dose {
	var d Dose
	p.take("dose")
	d.Mass = p.measured(mass)
	p.take("into")
	into := p.take(Central, Depot)
	d.Into, d.Place = into.text, into.place
	p.take("at")
	d.At = p.measured(time)
	return d
}

func (p *parser) infusion() Infusion {
	var i Infusion
	p.take("infuse")
	i.Speed = p.measured(mass).Value
	p.take("/")
	i.Speed.Quo(i.Speed, p.unit(time))
	p.take("from")
	i.From = p.measured(time)
	p.take("to")
	i.To = p.measured(time)
	return i
}

func (p *parser) read() Read {
	var r Read
	p.take("read")
	what := p.take(Central, Side, Depot, Gone, Total, Level)
	r.What, r.Place = what.text, what.place
	if r.What == Side {
		r.Side = p.number()
	}
	p.take("at")
	r.At = p.measured(time)
	p.take("in")
	r.Unit = p.unit(mass)
	if r.What == Level {
		p.take("/")
		r.Unit.Quo(r.Unit, p.unit(volume))
	}
	return r
}

func (p *parser) rate() *big.Rat {
	k := p.number().Value
	p.take("/")
	return k.Quo(k, p.unit(time))
}

func (p *parser) measured(m measure) Number {
	n := p.number()
	n.Value.Mul(n.Value, p.unit(m))
	return n
}

func (p *parser) number() Number {
	next := p.rest[0]
	p.check(next.kind == number)
	n := Number{new(big.Rat), next.place}
	n.Value.SetString(next.text)
	p.rest = p.rest[1:]
	return n
}

// unit answers the size of a unit.
func (p *parser) unit(m measure) *big.Rat {
	u, found := unitNamed(p.rest[0].text)
	p.check(found)
	if u.measure != m {
		p.refuse(Unit)
	}
	p.rest = p.rest[1:]
	return big.NewRat(u.size, 1)
}

// take goes on behind the next token, which must be one of those.
func (p *parser) take(texts ...string) token {
	next := p.rest[0]
	p.check(slices.Contains(texts, next.text))
	p.rest = p.rest[1:]
	return next
}

func (p *parser) sees(text string) bool { return p.rest[0].text == text }

// check refuses the next token unless it can stand where it stands.
func (p *parser) check(stands bool) {
	if !stands {
		p.refuse(Form)
	}
}

func (p *parser) refuse(reason Reason) { panic(&Fault{reason, p.rest[0].place}) }
