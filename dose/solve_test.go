package dose

import (
	"math"
	"math/big"
	"slices"
	"strconv"
	"strings"
	"testing"
)

// checkSolve holds all that is promised of Solve against a program.
func checkSolve(t *testing.T, program string) Errno {
	t.Helper()
	printed, wantE, wantPlace := Print(program)
	got, e, place := Solve(program)
	if e != wantE || place != wantPlace || e != OK && len(got) != 0 {
		t.Errorf("P12: Solve(%q) = %x, %d, %d, want the error %d at %d", program, got, e, place, wantE, wantPlace)
	}
	if e != OK || wantE != OK {
		return e
	}
	if again, e, place := Solve(printed); len(printed) <= 600 && (!slices.Equal(again, got) || e != OK || place != 0) {
		t.Errorf("P12: Solve(%q) = %x, %d, %d, want %x", printed, again, e, place, got)
	}
	w := worldOf(program)
	if len(got) != len(w.reads) {
		t.Fatalf("P12: Solve(%q): %d ranges, want %d", program, len(got), len(w.reads))
	}
	for i, r := range w.reads {
		if wrong := w.wrongWith(got[i], r); wrong != "" {
			t.Errorf("%s: Solve(%q), read %d: from %v to %v", wrong, program, i+1, math.Float64frombits(got[i].Lo), math.Float64frombits(got[i].Hi))
		}
	}
	return OK
}

// wrongWith answers which promise a range breaks, if it breaks one.
func (w world) wrongWith(got Range, r wantedRead) string {
	if !isFinite(got.Lo) || !isFinite(got.Hi) || got.Lo == signBit || got.Hi == signBit {
		return "P12"
	}
	lo, hi, truth := fraction(got.Lo), fraction(got.Hi), w.truth(r)
	if lo.Sign() < 0 {
		return "P14"
	}
	most := new(big.Rat).Quo(w.mass, r.unit)
	wrong := new(big.Rat)
	if r.what != "total" {
		wrong.Mul(most, slack)
	}
	if lo.Cmp(new(big.Rat).Add(truth, wrong)) > 0 || hi.Cmp(new(big.Rat).Sub(truth, wrong)) < 0 {
		approx, _ := truth.Float64()
		return "P13: want " + strconv.FormatFloat(approx, 'g', -1, 64)
	}
	if new(big.Rat).Sub(hi, lo).Cmp(most.Mul(most, limit)) > 0 {
		return "P15"
	}
	return ""
}

func checkSolved(t *testing.T, program string) {
	t.Helper()
	if e := checkSolve(t, program); e != OK {
		t.Errorf("P12: Solve(%q): error %d", program, e)
	}
}

// checkExactly looks for ranges that have these numbers in them, whatever the
// reference says, and that are narrow: by 2^-20 of the mass given.
func checkExactly(t *testing.T, program, mass string, want ...string) {
	t.Helper()
	checkSolved(t, program)
	got, _, _ := Solve(program)
	all, _ := new(big.Rat).SetString(mass)
	for i, text := range want {
		exact, _ := new(big.Rat).SetString(text)
		lo, hi := fraction(got[i].Lo), fraction(got[i].Hi)
		if lo.Cmp(exact) > 0 || hi.Cmp(exact) < 0 {
			t.Errorf("P13: Solve(%q), read %d: %x does not hold %s", program, i+1, got[i], text)
		}
		if hi.Sub(hi, lo).Cmp(new(big.Rat).Mul(all, limit)) > 0 {
			t.Errorf("P15: Solve(%q), read %d: %x is too wide", program, i+1, got[i])
		}
	}
}

func TestSolveExample(t *testing.T) {
	got, e, place := Solve("central 5 L; out 0.1 /h; dose 10 mg into central at 1 h; read central at 1 h in mg; read level at 11 h in mg /L;")
	if len(got) != 2 || e != OK || place != 0 {
		t.Fatalf("the example: %x, %d, %d", got, e, place)
	}
	for i, want := range []float64{10, 2 / math.E} {
		lo, hi := math.Float64frombits(got[i].Lo), math.Float64frombits(got[i].Hi)
		if lo > want || hi < want || hi-lo > 1e-5 {
			t.Errorf("the example: from %v to %v, want %v", lo, hi, want)
		}
	}
}

// Each error, and ahead of the others of its kind: the same as Print's.
func TestP12Errors(t *testing.T) {
	for _, c := range []struct {
		marked string
		want   Errno
	}{
		{"^", ErrForm},
		{"central 5 L; out 1 /h^", ErrForm},
		{small + "read gone at 1 h in g ^read", ErrForm},
		{small + "read gone at 1 h in ^ng;", ErrForm},
		{"central 5 ^mg;", ErrUnit},
		{small + "read level at 1 h in mg /^h;", ErrUnit},
		{"central ^0 L; out 1 /h; read gone at 1 h in g;", ErrZero},
		{small + "read ^depot at 1 h in g; read gone at 1 h in g;", ErrNone},
		{small + "read side ^1 at 1 h in g;", ErrNone},
		{small + "side 0 /h 0 /h; read side ^0.5 at 1 h in g;", ErrNone},
		{small + "dose 1 g into ^depot at 1 h; read gone at 1 h in g;", ErrNone},
		{small + "infuse 1 g /h from 60 min to ^1 h; read gone at 1 h in g;", ErrTime},
		{"^" + small + "read gone at 8.00001 h in g;", ErrStiff},
		{"^" + small + "read gone at 1 h in g;" + strings.Repeat(" ", 600), ErrLong},
	} {
		at := strings.Index(c.marked, "^")
		program := c.marked[:at] + c.marked[at+1:]
		if got, e, place := Solve(program); len(got) != 0 || e != c.want || place != at {
			t.Errorf("P12: Solve(%q) = %x, %d, %d, want %d at %d", program, got, e, place, c.want, at)
		}
	}
}

func TestP12AgainstPrint(t *testing.T) { checkMany(t, 5, 4000, checkSolve) }

// The answers stand in the order of the reads, whatever their times are.
func TestP12Order(t *testing.T) {
	const head = "central 2 L; out 0 /h; depot 0 /h; dose 1 mg into central at 1 h; dose 2 mg into depot at 2 h; dose 4 mg into central at 3 h; "
	checkExactly(t, head+"read total at 3 h in mg; read total at 1 h in mg; read level at 3 h in mg /L; read depot at 5 h in mg; read total at 0 h in mg; read central at 2 h in mg; read total at 2 h in mg; read depot at 119 min in mg;",
		"7", "7", "1", "5/2", "2", "0", "1", "3", "0")
	for _, program := range []string{"central 1 L; out 999999 /s;", head, small + "infuse 1 g /h from 1 h to 2 h;"} {
		if got, e, place := Solve(program); len(got) != 0 || e != OK || place != 0 {
			t.Errorf("P12: Solve(%q) = %x, %d, %d: there is no read", program, got, e, place)
		}
	}
}

// What is written in another way has the same answer, to the last bit.
func TestP12Written(t *testing.T) {
	plain := "central 5 L; out 0.1 /h; side 0.3 /h 0.2 /h; dose 10 µg into central at 1 h; infuse 2 µg /h from 0.5 h to 3 h; read level at 7 h in µg /L; read side 1 at 7 h in µg;"
	want, _, _ := Solve(plain)
	for _, program := range []string{
		strings.ReplaceAll(plain, " ", "\n\n"),
		strings.ReplaceAll(plain, "µg", "ug"),
		strings.ReplaceAll(strings.ReplaceAll(plain, " /", "/"), "; ", ";"),
		strings.NewReplacer("5 L", "005.00 L", "0.1 /h", "00.100 /h", "at 7 h", "at 007.0 h", "side 1", "side 01.00").Replace(plain),
	} {
		if got, e, _ := Solve(program); e != OK || len(want) != 2 || !slices.Equal(got, want) {
			t.Errorf("P12: Solve(%q) = %x, %d, want %x", program, got, e, want)
		}
		checkSolved(t, program)
	}
}

// A printed program that is too long to be solved may come of a solved one.
func TestP12LongPrinted(t *testing.T) {
	program := "central 111111mL;out 0/s;side 0/s 0/s;depot 0/s;" + strings.Repeat("dose 1g into central at 0s;", 8) + strings.Repeat("read level at 0s in ug/mL;", 8) + "infuse 1g/s from 0s to 1s;infuse 1g/s from 0s to 1.5s;"
	printed, _, _ := Print(program)
	checkSolved(t, program)
	if _, e, place := Solve(printed); len(printed) <= 600 || e != ErrLong || place != 0 {
		t.Errorf("P12: Solve of %d bytes: %d, %d", len(printed), e, place)
	}
}

// Where nothing flows all is exact.
func TestP13Still(t *testing.T) {
	const still = "central 4 L; out 0 /h; side 0 /d 0 /d; depot 0 /s; "
	checkExactly(t, still+"dose 1 g into central at 2 d; dose 3 mg into depot at 2 d; read central at 999999 d in mg; read central at 47.999 h in g; read gone at 999999 d in µg; read level at 48 h in g /mL; read depot at 999999 d in mg; read side 1 at 3 d in g;",
		"1/4000", "1000", "0", "0", "1/4000", "3", "0")
	checkExactly(t, still+"infuse 999999 g /s from 0 s to 999999 d; read central at 999999 d in g; read central at 1 s in g; read total at 0.5 d in g;",
		"86399827200086400", "86399827200086400", "999999", "43199956800")
	checkExactly(t, still+"dose 0.00001 µg into central at 0 s; read central at 0.00001 s in g; read level at 999999 d in g /mL;", "1/1000000000000000", "1/100000000000", "1/400000000000000")
}

// A dose of the very time of a read is in it, however the time is written and
// wherever the dose stands; one of any later time is not.
func TestP13VeryTime(t *testing.T) {
	checkExactly(t, "central 3 L; out 0.7 /h; depot 0.1 /h; read central at 60 min in mg; dose 0.1 mg into central at 1 h; dose 0.2 mg into central at 3600 s; read total at 1 h in mg; read depot at 1 h in mg; dose 0.4 mg into depot at 60 min; read central at 59.999 min in mg; read gone at 1 h in mg;",
		"0.7", "0.3", "0.7", "0.4", "0", "0")
	checkExactly(t, "central 3 L; out 8 /d; dose 7 µg into central at 0 s; read central at 0 d in ug; read level at 0 h in ug /L; read total at 0 min in g; dose 1 g into central at 0.00001 s; dose 1 g into central at 24 h;",
		"1", "7", "7/3", "0.000007")
	checkExactly(t, "central 1 L; out 1000 /s; side 999999 /s 999999 /s; depot 999999 /s; dose 3 g into depot at 0 s; dose 4 g into central at 0 s; read depot at 0 s in g; read central at 0 s in g; read side 1 at 0 s in g;", "1", "3", "4", "0")
}

// An infusion counts from its beginning to its end, and no longer.
func TestP13Infusions(t *testing.T) {
	const still = "central 2 L; out 0 /h; "
	checkExactly(t, still+"infuse 6 mg /h from 1 h to 3 h; read central at 1 h in mg; read central at 61 min in mg; read total at 2.5 h in mg; read central at 3 h in mg; read total at 181 min in mg; read level at 9 d in mg /L; read total at 59 min in mg;",
		"1", "0", "0.1", "9", "12", "12", "6", "0")
	checkExactly(t, still+"infuse 1 mg /h from 0 h to 2 h; infuse 10 mg /h from 1 h to 3 h; infuse 100 mg /h from 60 min to 2 h; read central at 1 h in mg; read central at 1.5 h in mg; read central at 120 min in mg; read central at 2.5 h in mg; read central at 3 h in mg; read central at 1 d in mg;",
		"1", "1", "56.5", "112", "117", "122", "122")
	checkExactly(t, still+"infuse 1 mg /h from 0 h to 1 h; infuse 2 mg /h from 1 h to 2 h; infuse 1 µg /s from 5 h to 0.25 d; read total at 0.5 h in mg; read total at 1 h in mg; read total at 1.5 h in mg; read central at 4 h in mg; read central at 7 h in mg;",
		"1", "0.5", "1", "2", "3", "6.6")
	for _, body := range []string{"central 2 L; out 1 /h; ", "central 2 L; out 0.3 /h; side 0.2 /h 0.1 /h; depot 0.1 /h; dose 5 mg into depot at 1 h; "} {
		checkSolved(t, body+"infuse 6 mg /h from 1 h to 3 h; read central at 1 h in mg; read central at 2 h in mg; read central at 3 h in mg; read central at 5 h in mg; read gone at 3 h in mg; read gone at 5 h in mg; read total at 2.5 h in mg; read level at 8 h in µg /mL;")
		checkSolved(t, body+"infuse 6 mg /h from 0 h to 3 h; infuse 1 g /d from 2 h to 8 h; infuse 0.00001 µg /d from 3 h to 3.00001 h; read central at 0 h in mg; read central at 2 h in mg; read central at 8 h in mg; read gone at 8 h in mg;")
	}
}

// Known solutions: of one rate, of a depot, and of a side alone.
func TestP13Closed(t *testing.T) {
	for _, c := range []struct {
		program string
		want    []float64
	}{
		{"central 4 L; out 2 /h; dose 8 mg into central at 1 h; read central at 2.5 h in mg; read level at 2.5 h in mg /L; read gone at 2.5 h in mg; read total at 2.5 h in µg;", []float64{8 * math.Exp(-3), 2 * math.Exp(-3), -8 * math.Expm1(-3), 8000}},
		{"central 4 L; out 1 /h; depot 3 /h; dose 8 mg into depot at 0 h; read depot at 1 h in mg; read central at 1 h in mg; read gone at 1 h in mg;", []float64{8 * math.Exp(-3), 12 * (math.Exp(-1) - math.Exp(-3)), 8 - 8*math.Exp(-3) - 12*(math.Exp(-1)-math.Exp(-3))}},
		{"central 4 L; out 0 /h; side 3 /h 1 /h; dose 8 mg into central at 0 h; read central at 1 h in mg; read side 1 at 1 h in mg; read gone at 1 h in mg;", []float64{2 + 6*math.Exp(-4), 6 - 6*math.Exp(-4), 0}},
		{"central 4 L; out 1 /h; infuse 8 mg /h from 0 h to 1 h; read central at 1 h in mg; read gone at 1 h in mg; read central at 3 h in mg;", []float64{-8 * math.Expm1(-1), 8 * math.Exp(-1), -8 * math.Expm1(-1) * math.Exp(-2)}},
	} {
		checkSolved(t, c.program)
		got, _, _ := Solve(c.program)
		for i, want := range c.want {
			lo, hi := math.Float64frombits(got[i].Lo), math.Float64frombits(got[i].Hi)
			if lo > want+1e-11 || hi < want-1e-11 || hi-lo > 8e-6 {
				t.Errorf("P13: Solve(%q), read %d: from %v to %v, want %v", c.program, i+1, lo, hi, want)
			}
		}
	}
}

// Sides have their numbers from the first line on, and rates of their own.
func TestP13Sides(t *testing.T) {
	const body = "central 1.5 L; out 0.2 /h; side 0.3 /h 0.1 /h; side 0.05 /h 0 /h; side 0 /h 0.7 /h; depot 1.5 /h; "
	checkSolved(t, body+"dose 100 mg into depot at 0.5 h; read side 1 at 2 h in mg; read side 2 at 2 h in mg; read side 3 at 2 h in mg; read central at 2 h in mg; read depot at 2 h in mg; read gone at 2 h in mg; read level at 2 h in mg /mL;")
	checkSolved(t, body+"dose 100 mg into central at 0.5 h; infuse 3 mg /min from 30 min to 45 min; read side 3.0 at 2 h in mg; read side 02 at 2 h in mg; read side 1 at 2 h in µg; read side 2 at 2 h in g;")
}

// The bound of ErrStiff itself, reached by each kind of rate.
func TestP13Turns(t *testing.T) {
	const reads = "dose 1 g into central at 0 h; infuse 1 g /h from 0 h to 8 h; read central at 8 h in mg; read gone at 8 h in mg; read central at 7.99999 h in g;"
	for _, rates := range []string{
		"out 1 /h;", "out 0 /h; side 1 /h 0 /h;", "out 0 /h; side 0 /h 1 /h;", "out 0 /h; side 0.5 /h 0.5 /h;", "out 0 /h; depot 1 /h;", "out 0.00001 /h; side 0 /h 0.99999 /h;",
		"out 0.1 /h; side 0.1 /h 0.1 /h; side 0.1 /h 0.1 /h; side 0.2 /h 0.2 /h; depot 0.1 /h;", "out 24 /d;", "out 0.00001 /d;",
	} {
		checkSolved(t, "central 1 mL; "+rates+reads)
	}
	checkSolved(t, "central 1 mL; out 0 /h; depot 1 /h; dose 1 g into depot at 0 h; read depot at 8 h in g; read central at 8 h in g; read depot at 1 h in ug;")
	checkSolved(t, "central 999999 L; out 0.00001 /d; dose 1 g into central at 0 h; read level at 800000 d in g /mL; read gone at 800000 d in µg; read gone at 0.00001 s in g;")
	checkSolved(t, "central 0.00001 mL; out 800000 /s; dose 999999 g into central at 0 s; read level at 0.00001 s in ug /L; read gone at 0.00001 s in g;")
}

// Where nothing was given nothing is there; and what is given late leaves
// nothing early.
func TestP15Nothing(t *testing.T) {
	for _, program := range []string{
		"central 3 L; out 0.7 /h; read central at 1 h in mg; read level at 1 h in mg /L; read gone at 11 h in g; read total at 11 h in g; read central at 0 s in g;",
		"central 3 L; out 0.7 /h; side 0.1 /h 0.1 /h; depot 0.3 /h; dose 0 mg into central at 0 h; dose 0.0 g into depot at 1 h; infuse 0 g /h from 0 h to 5 h; read central at 5 h in mg; read side 1 at 6 h in mg; read depot at 6 h in µg; read level at 1 h in mg /L; read total at 2 h in g; read gone at 2 h in g;",
		"central 3 L; out 0.7 /h; side 0.1 /h 0.1 /h; depot 0.3 /h; dose 1 mg into central at 5 h; dose 1 g into depot at 5 h; infuse 1 g /h from 4.99999 h to 5 h; read central at 4.99 h in mg; read side 1 at 1 h in mg; read depot at 4 h in µg; read level at 1 h in mg /L; read total at 2 h in g; read gone at 2 h in g;",
	} {
		checkSolved(t, program)
		got, _, _ := Solve(program)
		for i, r := range got {
			if r != (Range{}) {
				t.Errorf("P15: Solve(%q), read %d: %x, want 0", program, i+1, r)
			}
		}
	}
}

// number answers what is near to x and can stand in a program.
func number(x float64) string {
	if x >= 999999.5 {
		return "999999"
	}
	whole := len(strconv.Itoa(int(x)))
	return strconv.FormatFloat(x, 'f', max(0, min(5, 6-whole)), 64)
}

func (c *chance) part() float64 { return float64(c.below(1<<20)) / (1 << 20) }

// time answers a part of a span of seconds, or one of the times that were told
// before, in any unit.
func (c *chance) time(span float64, told *[]string) string {
	if len(*told) > 0 && c.below(3) == 0 {
		return (*told)[c.below(len(*told))]
	}
	x := span * c.part()
	switch c.below(8) {
	case 0:
		x = 0
	case 1:
		x = span
	}
	unit := c.oneOf("s min h d")
	text := number(x/float64(unitSizes["TIME"][unit])) + " " + unit
	*told = append(*told, text)
	return text
}

// rate answers a rate of which few turns are made in a span of seconds.
func (c *chance) rate(span float64) string {
	unit := c.oneOf("s min h d")
	turns := math.Ldexp(2*c.part(), -c.below(3)*c.below(12))
	if c.below(8) == 0 {
		turns = 0
	}
	return number(turns/span*float64(unitSizes["TIME"][unit])) + " /" + unit
}

// solvable answers a program that may still be stiff, or have an infusion that
// does not end later than it begins.
func (c *chance) solvable() string {
	span := math.Pow(10, -2+12*c.part())
	var told []string
	lines := []string{"central " + c.oneOf("1 0.00001 999999 2.5 30") + " " + c.oneOf("L mL"), "out " + c.rate(span)}
	sides := c.below(4)
	for range sides {
		lines = append(lines, "side "+c.rate(span)+" "+c.rate(span))
	}
	places := "central depot"
	lines = append(lines, "depot "+c.rate(span))
	if c.below(2) == 0 {
		lines, places = lines[:len(lines)-1], "central"
	}
	for range c.below(5) {
		lines = append(lines, "dose "+c.mass()+" into "+c.oneOf(places)+" at "+c.time(span, &told))
	}
	for range c.below(4) {
		lines = append(lines, "infuse "+c.mass()+" /"+c.oneOf("s min h d")+" from "+c.time(span/2, &told)+" to "+c.time(span, &told))
	}
	for range 1 + c.below(6) {
		what := c.oneOf(places + " gone total level side side")
		unit := c.oneOf("g mg µg ug")
		switch {
		case what == "level":
			unit += " /" + c.oneOf("L mL")
		case what == "side" && sides == 0:
			what = "gone"
		case what == "side":
			what += " " + strconv.Itoa(1+c.below(sides))
		}
		lines = append(lines, "read "+what+" at "+c.time(span, &told)+" in "+unit)
	}
	return strings.Join(lines, ";") + ";"
}

func (c *chance) mass() string {
	return c.oneOf("1 0.1 0.00001 999999 2.5 30 0 123.456") + " " + c.oneOf("g mg µg ug")
}

func TestSolveAgainstReference(t *testing.T) {
	c := chance{state: 7}
	solved := 0
	for range 3000 {
		if checkSolve(t, c.solvable()) == OK {
			solved++
		}
	}
	if solved < 1000 {
		t.Errorf("only %d programs could be solved", solved)
	}
}
