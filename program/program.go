// Package program: the language that says what a body is, what it is given and
// what is read of it: see DOC.md.
package program

import "math/big"

// Words that name where a dose goes and what is read.
const (
	Central = "central"
	Side    = "side"
	Depot   = "depot"
	Gone    = "gone"
	Total   = "total"
	Level   = "level"
)

// Program is what a text says, exactly. Masses are in µg, volumes in mL and
// times in s.
type Program struct {
	Volume    Number
	Out       *big.Rat
	Sides     []Exchange
	Depot     *big.Rat // nil where there is no depot
	Doses     []Dose
	Infusions []Infusion
	Reads     []Read

	tokens []token
}

// Number is a number, in its unit if it has one, and its place in the text.
type Number struct {
	Value *big.Rat
	Place int
}

// Exchange is the rates from the central compartment to a side and back.
type Exchange struct{ There, Back *big.Rat }

// Dose is a mass that is given at once.
type Dose struct {
	Mass  Number
	Into  string
	Place int // of the word that says where it goes
	At    Number
}

// Infusion is a mass per time, and the time in which it is given.
type Infusion struct {
	Speed    *big.Rat
	From, To Number
}

// Read is a question.
type Read struct {
	What  string
	Place int    // of the word that says what
	Side  Number // if What is Side
	At    Number
	Unit  *big.Rat // the size of the unit that is asked for
}

// Reason is why a text is no program.
type Reason int

const (
	Form  Reason = iota // what cannot stand where it stands
	Unit                // a unit of another kind
	None                // a side or a depot that there is not
	Zero                // a volume of nothing
	Time                // an infusion that does not end later than it begins
	Stiff               // too much turnover
)

// Fault is a reason, and the place in the text, in bytes.
type Fault struct {
	Reason Reason
	Place  int
}

// Parse answers what a text says, or why it is no program.
func Parse(text string) (*Program, *Fault) {
	tokens := tokensOf(text)
	said, fault := parsed(tokens)
	if fault == nil {
		fault = faultOf(said)
	}
	if fault != nil {
		return nil, fault
	}
	said.tokens = tokens
	return said, nil
}
