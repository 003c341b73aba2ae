package dose

import (
	"strings"
	"testing"
)

const small = "central 5 L; out 1 /h; "

func checkPrint(t *testing.T, program string) Errno {
	t.Helper()
	want, wantE, wantPlace := wantedPrint(program)
	got, e, place := Print(program)
	if got != want || e != wantE || place != wantPlace {
		t.Errorf("P9, P10: Print(%q) = %q, %d, %d, want %q, %d, %d", program, got, e, place, want, wantE, wantPlace)
	}
	if e == OK {
		checkAgain(t, got)
	}
	return e
}

// checkAgain looks at Print of what Print answered.
func checkAgain(t *testing.T, printed string) {
	t.Helper()
	again, e, place := Print(printed)
	if len(printed) > 600 {
		if again != "" || e != ErrLong || place != 0 {
			t.Errorf("P9: Print of %d bytes = %q, %d, %d", len(printed), again, e, place)
		}
		return
	}
	if again != printed || e != OK || place != 0 {
		t.Errorf("P11: Print(%q) = %q, %d, %d", printed, again, e, place)
	}
}

// checkRefusals takes programs in which ^ stands ahead of the place.
func checkRefusals(t *testing.T, want Errno, marked []string) {
	t.Helper()
	for _, m := range marked {
		at := strings.Index(m, "^")
		program := m[:at] + m[at+1:]
		if got, e, place := Print(program); got != "" || e != want || place != at {
			t.Errorf("P9: Print(%q) = %q, %d, %d, want %d at %d", program, got, e, place, want, at)
		}
		checkPrint(t, program)
		checkSolve(t, program)
	}
}

func TestPrintExamples(t *testing.T) {
	got, e, place := Print("central 5.0 L;out 0.10/h;dose 2 ug into central at 0 h;")
	if got != "central 5 L;\nout 0.1 /h;\ndose 2 µg into central at 0 h;\n" || e != OK || place != 0 {
		t.Errorf("the first example: %q, %d, %d", got, e, place)
	}
	checkRefusals(t, ErrUnit, []string{"central 5 ^mg;"})
}

func TestP9Form(t *testing.T) {
	checkRefusals(t, ErrForm, []string{
		"^", "  \n ^", "^#", "^;", "^5", "^out 1 /h;", "^Central 5 L;", "^centralx 5 L;",
		"central^", "central ^", "central ^L;", "central ^; 5 L;", "central 5^", "central 5^;", "central 5 ^5 L;", "central 5 ^/L;",
		"central 5 L^", "central 5 L \n^", "central 5 L ^L;", "central 5 L;^", "central 5 L;^;", "central 5 L; ^central 5 L;",
		"central 5 L; ^side 1 /h 1 /h;", "central 5 L; ^depot 1 /h;", "central 5 L; ^dose 1 mg into central at 1 h;",
		"central 5 L; out 1 ^h;", "central 5 L; out 1 /^;", "central 5 L; out 1 /^1;", "central 5 L; out 1 /h^", "central 5 L; out ^/h;",
		small + "^;", small + "^x", small + "^out 1 /h;", small + "^central 5 L;", small + "^at", small + "^5",
		small + "side 1 /h^;", small + "side 1 /h 1^;", small + "side 1 /h ^/h;", small + "side 1 /h 1 /h ^1 /h;",
		small + "depot^;", small + "depot 1 /h ^1 /h;", small + "depot 1 /h; ^depot 1 /h;", small + "depot 1 /h; ^side 1 /h 1 /h;",
		small + "read gone at 1 h in g; ^side 1 /h 1 /h;", small + "read gone at 1 h in g; ^depot 1 /h;", small + "dose 1 g into central at 1 h; ^out 1 /h;",
		small + "dose ^mg into central at 1 h;", small + "dose 1 mg ^to central at 1 h;", small + "dose 1 mg into ^gone at 1 h;", small + "dose 1 mg into ^side 1 at 1 h;",
		small + "dose 1 mg into central ^in 1 h;", small + "dose 1 mg into central at ^h;", small + "dose 1 mg ^/h into central at 1 h;", small + "dose 1 mg into central at 1 h ^dose",
		small + "infuse 1 mg ^from 1 h to 2 h;", small + "infuse 1 mg /h ^to 2 h;", small + "infuse 1 mg /h from 1 h^;", small + "infuse 1 mg /h from 1 h to^;",
		small + "infuse 1 mg /h ^into central from 1 h to 2 h;", small + "infuse 1 mg /h from 1 ^to 2 h;",
		small + "read^;", small + "read ^out at 1 h in g;", small + "read ^at 1 h in g;", small + "read side ^at 1 h in g;", small + "read side ^one at 1 h in g;",
		small + "read gone ^1 at 1 h in g;", small + "read central ^in g;", small + "read total at 1 h^;", small + "read total at 1 h in^;", small + "read total at 1 h in ^1 g;",
		small + "read total at 1 h in g ^/L;", small + "read level at 1 h in g^;", small + "read level at 1 h in g /^;", small + "read level at 1 h in ^/L;",
	})
}

func TestP9NoToken(t *testing.T) {
	checkRefusals(t, ErrForm, []string{
		"central ^5. L;", "central ^.5 L;", "central 1.2^.3 L;", "central ^1..2 L;", "central ^-1 L;", "central ^+1 L;", "central 1^,5 L;", "central 1 ^e L;", "central 1^e3 L;",
		"central ^1234567 L;", "central ^0000000 L;", "central ^0.000001 L;", "central ^123456.7 L;", "central ^1234567890123456789012345678901234567890 L;",
		"central^\t5 L;", "central^\r\n5 L;", "central^\u00a05 L;", "central 5 L^\x00;", "central 5 L^@;", "central 5 L^[;", "central 5 L^`;", "central 5 L^{;", "central 5^:L;", "^\ufeffcentral 5 L;", "central ^٣ L;",
		small + "^# x", small + "^\xff", small + "^\xc2", small + "^\xb5g", small + "read gone at 1 h in ^\xc2g;", small + "read gone at 1 h in ^\xb5g;",
		small + "read gone at 1 h in ^μg;", small + "read gone at 1 h in g^μ;", small + "read gone at 1 h in g^é;", small + "read gone at 1 h in ^\ufffd;",
	})
}

// A word that is no unit is no token that can stand there, whatever unit must.
func TestP9NoUnit(t *testing.T) {
	checkRefusals(t, ErrForm, []string{
		"central 5 ^l;", "central 5 ^kg;", "central 5 ^ML;", "central 5 ^uL;", "central 5 ^µL;", "central 5 ^Lh;", "central 5 ^central;", "central 5 ^LA;", "central 5 ^LZ;", "central 5 ^La;", "central 5 ^Lz;",
		"central 5 L; out 1 /^H;", "central 5 L; out 1 /^hr;", "central 5 L; out 1 /^ms;", "central 5 L; out 1 /^m;", "central 5 L; out 1 /^minh;",
		small + "read gone at 1 h in ^ng;", small + "read gone at 1 h in ^G;", small + "read gone at 1 h in ^µ;", small + "read gone at 1 h in ^gµ;", small + "read gone at 1 h in ^Ug;",
	})
}

func TestP9Unit(t *testing.T) {
	var marked []string
	for _, c := range []struct{ ahead, units, behind string }{
		{"central 5 ", "g mg µg ug s min h d", ";"},
		{"central 5 L; out 1 /", "g mg µg ug L mL", ";"},
		{small + "side 1 /h 1 /", "g mg µg ug L mL", ";"},
		{small + "depot 1/", "g mg µg ug L mL", ";"},
		{small + "dose 1 ", "L mL s min h d", " into central at 1 h;"},
		{small + "dose 1 mg into central at 1 ", "g mg µg ug L mL", ";"},
		{small + "infuse 1 ", "L mL s min h d", " /h from 1 h to 2 h;"},
		{small + "infuse 1 mg /", "g mg µg ug L mL", " from 1 h to 2 h;"},
		{small + "infuse 1 mg /h from 1 ", "g mg µg ug L mL", " to 2 h;"},
		{small + "infuse 1 mg /h from 1 h to 2 ", "g mg µg ug L mL", ";"},
		{small + "read gone at 1 ", "g mg µg ug L mL", " in g;"},
		{small + "read gone at 1 h in ", "L mL s min h d", ";"},
		{small + "read level at 1 h in ", "L mL s min h d", " /L;"},
		{small + "read level at 1 h in g /", "g mg µg ug s min h d", ";"},
	} {
		for _, unit := range strings.Fields(c.units) {
			marked = append(marked, c.ahead+"^"+unit+c.behind, c.ahead+"^"+unit)
		}
	}
	checkRefusals(t, ErrUnit, marked)
}

// Of an error in the form and one in a unit the left one is answered, and both
// go ahead of what is wrong with the meaning.
func TestP9FromTheLeft(t *testing.T) {
	checkRefusals(t, ErrUnit, []string{"central 5 ^mg #", "central 0 L; out 1 /^g ;;", "central 0 ^s; out 1.", small + "read depot at 1 ^g in #;"})
	checkRefusals(t, ErrForm, []string{"central ^# 5 mg;", "central 0 L; out 1 ^;/g;", "central 0 L; out 99 /s; read depot at 1 h in g; read side 7 at 1 h in g; infuse 1 g /h from 1 h to 0 h; ^;", "central 0 L;^"})
}

func TestP9Zero(t *testing.T) {
	checkRefusals(t, ErrZero, []string{"central ^0 L; out 1 /h;", "central ^00.000 mL; out 1 /h;", "central\n^0L;out 0/h;"})
	for _, n := range []string{"0.00001", "00001", "999999"} {
		if e := checkPrint(t, "central "+n+" mL; out 1 /h;"); e != OK {
			t.Errorf("P9: a volume of %s: %d", n, e)
		}
	}
	if e := checkPrint(t, "central 1 L; out 0 /h; side 0 /h 0 /h; depot 0 /h; dose 0 g into depot at 0 h; infuse 0 g /h from 0 h to 1 h;"); e != OK {
		t.Errorf("P9: zeros that are no volume: %d", e)
	}
}

func TestP9None(t *testing.T) {
	side := small + "side 1 /h 1 /h; "
	checkRefusals(t, ErrNone, []string{
		small + "dose 1 g into ^depot at 1 h;", small + "read ^depot at 1 h in g;", side + "read ^depot at 1 h in g;",
		small + "read side ^1 at 1 h in g;", small + "read side ^0 at 1 h in g;", small + "depot 1 /h; read side ^1 at 1 h in g;",
		side + "read side ^2 at 1 h in g;", side + "read side ^0 at 1 h in g;", side + "read side ^0.5 at 1 h in g;", side + "read side ^1.00001 at 1 h in g;",
		side + "read side ^0.99999 at 1 h in g;", side + "read side ^999999 at 1 h in g;",
		side + "side 0 /h 0 /h; side 0 /h 0 /h; read side 3 at 1 h in g; read side ^4 at 1 h in g;", side + "side 0 /h 0 /h; read side ^1.5 at 1 h in g;",
	})
	for _, program := range []string{
		side + "read side 1 at 1 h in g;", side + "read side 01.00 at 1 h in g;", side + "side 0 /h 0 /h; side 0 /h 0 /h; read side 3 at 1 h in g; read side 2 at 1 h in g;",
		small + "depot 1 /h; read depot at 1 h in g; dose 1 g into depot at 1 h;",
	} {
		if e := checkPrint(t, program); e != OK {
			t.Errorf("P9: Print(%q): %d", program, e)
		}
	}
}

func TestP9Time(t *testing.T) {
	checkRefusals(t, ErrTime, []string{
		small + "infuse 1 mg /h from 1 h to ^1 h;", small + "infuse 1 mg /h from 0 h to ^0 s;", small + "infuse 1 mg /h from 1 h to ^60 min;", small + "infuse 1 mg /h from 1 h to ^59.999 min;",
		small + "infuse 1 mg /h from 1 d to ^24 h;", small + "infuse 1 mg /h from 1 d to ^0.99999 d;", small + "infuse 1 mg /h from 0.1 min to ^6 s;",
		small + "infuse 0 mg /h from 1 h to 2 h; infuse 0 mg /h from 2 h to ^1 h; infuse 0 mg /h from 3 h to 1 h;",
	})
	for _, span := range []string{"1 h to 60.001 min", "0 d to 0.00001 s", "0.99999 h to 1 h", "6 s to 0.10001 min", "23.999 h to 1 d"} {
		if e := checkPrint(t, "central 5 L; out 0.1 /h; infuse 1 mg /h from "+span+";"); e != OK {
			t.Errorf("P9: from %s: %d", span, e)
		}
	}
}

// Of several errors in what is meant the one with the least place is answered,
// whatever it is, and all of them ahead of ErrStiff.
func TestP9Least(t *testing.T) {
	const stiff = "out 9 /s; "
	checkRefusals(t, ErrZero, []string{"central ^0 L; " + stiff + "read depot at 1 h in g; infuse 1 g /h from 1 h to 1 h;"})
	checkRefusals(t, ErrNone, []string{
		"central 1 L; " + stiff + "read ^depot at 1 h in g; infuse 1 g /h from 1 h to 1 h; dose 1 g into depot at 1 h;",
		"central 1 L; " + stiff + "dose 1 g into ^depot at 1 h; infuse 1 g /h from 1 h to 1 h; read depot at 1 h in g;",
		"central 1 L; " + stiff + "read side ^2 at 1 h in g; read depot at 1 h in g; dose 1 g into depot at 1 h;",
		"central 1 L; " + stiff + "read ^depot at 1 h in g; read side 2 at 1 h in g;",
	})
	checkRefusals(t, ErrTime, []string{"central 1 L; " + stiff + "infuse 1 g /h from 1 h to ^1 h; dose 1 g into depot at 1 h; read side 1 at 1 h in g;"})
	checkRefusals(t, ErrStiff, []string{"^central 1 L; " + stiff + "read gone at 1 h in g;"})
}

func TestP9Stiff(t *testing.T) {
	checkRefusals(t, ErrStiff, []string{
		"^" + small + "read gone at 8.00001 h in g;", "^" + small + "dose 1 g into central at 8.00001 h;", "^" + small + "infuse 1 g /h from 0 h to 8.00001 h;",
		"^" + small + "read gone at 28800.1 s in g;", "^" + small + "read gone at 480.001 min in g;", "^" + small + "read gone at 0.33334 d in g;",
		"^" + small + "read gone at 1 h in g; read gone at 9 h in g; read gone at 2 h in g;", "^" + small + "read gone at 9 h in g; dose 1 g into central at 480 min; infuse 1 g /h from 0 s to 1 d;",
		"^" + small + "side 0 /h 0.00001 /h; read gone at 8 h in g;", "^" + small + "side 0.00001 /h 0 /h; read gone at 8 h in g;", "^" + small + "depot 0.00001 /h; read gone at 8 h in g;",
		"^central 5 L; out 1 /d; side 1 /d 1 /d; side 1 /d 1 /d; side 1 /d 1 /d; depot 1.00001 /d; read total at 24 h in g;",
		"^central 5 L; out 999999 /s; side 999999 /s 999999 /s; depot 999999 /s; dose 1 g into central at 999999 d;",
		"^central 5 L; out 0.00001 /d; read gone at 800001 d in g;", "^central 5 L; out 0.8 /s; read gone at 10.0001 s in g;",
	})
	for _, program := range []string{
		small + "read gone at 8 h in g;", small + "dose 1 g into central at 480 min;", small + "infuse 1 g /s from 7 h to 28800 s;", "central 5 L; out 999999 /s;",
		"central 5 L; out 999999 /s; dose 1 g into central at 0 d;", "central 5 L; out 0 /s; read gone at 999999 d in g;", "central 5 L; out 0.1 /s; read gone at 80 s in g;",
		"central 5 L; out 1 /d; side 1 /d 1 /d; side 1 /d 1 /d; side 1 /d 1 /d; depot 1 /d; read total at 24 h in g;",
		"central 5 L; out 0.00001 /d; read gone at 800000 d in g;", "central 5 L; out 60 /h; side 0.5 /min 1440 /d; depot 0.025 /s; read gone at 0.03333 h in g;", small + "infuse 999999 g /s from 0 h to 8 h;",
	} {
		if e := checkPrint(t, program); e != OK {
			t.Errorf("P9: Print(%q): %d", program, e)
		}
	}
}

func TestP9Many(t *testing.T) {
	for _, c := range []struct {
		line string
		most int
	}{
		{"side 0 /h 0 /h;", 3}, {"depot 0 /h;", 1}, {"dose 0 g into central at 0 h;", 8}, {"infuse 0 g /h from 0 h to 1 s;", 3}, {"read gone at 0 h in g;", 8}, {"read level at 0 h in g /L;", 8},
	} {
		full := small + strings.Repeat(c.line, c.most)
		if e := checkPrint(t, full); e != OK {
			t.Errorf("P9: %d of %q: %d", c.most, c.line, e)
		}
		checkRefusals(t, ErrForm, []string{full + "^" + c.line, full + "^" + strings.Fields(c.line)[0]})
	}
	mixed := small + strings.Repeat("dose 0 g into central at 0 h;read gone at 0 h in g;", 4) + "infuse 0 g/h from 0 h to 1 s;"
	if e := checkPrint(t, mixed+strings.Repeat("dose 0 g into central at 0 h;", 4)+strings.Repeat("read level at 0 s in g/L;", 4)); e != OK {
		t.Errorf("P9: 8 doses, 8 reads and an infusion: %d", e)
	}
	checkRefusals(t, ErrForm, []string{mixed + strings.Repeat("read level at 0 s in g/L;", 4) + "^read total at 0 s in g;"})
}

func TestP9Long(t *testing.T) {
	for _, program := range []string{small, "central 5 mg;", "#", ""} {
		full := program + strings.Repeat(" ", 600-len(program))
		if e := checkPrint(t, full); e == ErrLong {
			t.Errorf("P9: 600 bytes are too long")
		}
		if got, e, place := Print(full + "\n"); got != "" || e != ErrLong || place != 0 {
			t.Errorf("P9: 601 bytes: %q, %d, %d", got, e, place)
		}
	}
	// Bytes count, not runes.
	runes := small + "read gone at 1 h in " + strings.Repeat("µ", 280)
	checkRefusals(t, ErrForm, []string{small + "read gone at 1 h in ^" + strings.Repeat("µ", 278)})
	if _, e, place := Print(runes); e != ErrLong || place != 0 {
		t.Errorf("P9: %d bytes: %d, %d", len(runes), e, place)
	}
}

// Spelt out, so that the text does not hang on the reference alone.
func TestP10Text(t *testing.T) {
	const program = "central 05.50mL;\n\n\nout 0/h;side 1/d 0.10 / min;side 0.0/s 000/s;depot\n1.0/h;" +
		"read side 1.0 at 0.50 h in ug;dose 10 ug into depot at 00 d;infuse 100 g/s from 0 s to 010.00 s;" +
		"dose 1.500 µg into central at 1 s;read level at 0 h in ug/mL;read total at 0 h in mg;read depot at 0 h in g ; "
	const want = "central 5.5 mL;\nout 0 /h;\nside 1 /d 0.1 /min;\nside 0 /s 0 /s;\ndepot 1 /h;\n" +
		"read side 1 at 0.5 h in µg;\ndose 10 µg into depot at 0 d;\ninfuse 100 g /s from 0 s to 10 s;\n" +
		"dose 1.5 µg into central at 1 s;\nread level at 0 h in µg /mL;\nread total at 0 h in mg;\nread depot at 0 h in g;\n"
	if got, e, place := Print(program); got != want || e != OK || place != 0 {
		t.Errorf("P10: %q, %d, %d, want %q", got, e, place, want)
	}
	checkPrint(t, program)
	checkPrint(t, want)
}

func TestP10Numbers(t *testing.T) {
	for _, c := range []struct{ number, want string }{
		{"0", "0"}, {"000000", "0"}, {"0.00000", "0"}, {"00.0", "0"}, {"1", "1"}, {"01", "1"}, {"10", "10"}, {"0100", "100"}, {"100000", "100000"}, {"999999", "999999"},
		{"0.5", "0.5"}, {"00.50", "0.5"}, {"10.0", "10"}, {"10.10", "10.1"}, {"0.10001", "0.10001"}, {"0.00001", "0.00001"}, {"00.010", "0.01"}, {"99999.9", "99999.9"}, {"1.00000", "1"}, {"20.02", "20.02"},
	} {
		got, e, _ := Print(small + "dose " + c.number + " g into central at 0 h;")
		if want := "central 5 L;\nout 1 /h;\ndose " + c.want + " g into central at 0 h;\n"; got != want || e != OK {
			t.Errorf("P10: %s: %q, %d, want %q", c.number, got, e, want)
		}
	}
}

// What Print answers may be longer than what it was given, and too long.
func TestP11Long(t *testing.T) {
	reads := strings.Repeat("read level at 0s in ug/mL;", 8) + strings.Repeat("infuse 1g/s from 0s to 1s;", 3)
	for _, c := range []struct {
		volume string
		length int
	}{{"1", 595}, {"111111", 600}, {"11111.1", 601}} {
		program := "central " + c.volume + "mL;out 0/s;side 0/s 0/s;depot 0/s;" + strings.Repeat("dose 1g into central at 0s;", 7) + reads
		printed, e, _ := Print(program)
		if e != OK || len(printed) != c.length {
			t.Errorf("P11: %d, %d bytes, want %d", e, len(printed), c.length)
		}
		checkAgain(t, printed)
	}
}

// chance is a row of numbers that look like chance, the same ones each time.
type chance struct{ state uint64 }

func (c *chance) below(n int) int {
	c.state = c.state*6364136223846793005 + 1442695040888963407
	return int(c.state >> 33 % uint64(n))
}

func (c *chance) oneOf(words string) string {
	list := strings.Fields(words)
	return list[c.below(len(list))]
}

// token answers a token for a part of a form, now and then a wrong one.
func (c *chance) token(part string) string {
	if c.below(200) == 0 {
		part = c.oneOf("NUMBER MASS VOLUME TIME / ; side at x kg 5. 1234567 1.2.3 # µ μg \xc2 l")
	}
	switch part {
	case "NUMBER":
		return c.oneOf("0 0.0 1 01 1.0 2 3 3.00001 0.5 0.50 0.25 0.1 10 0.00001 0.12345 007 1.5")
	case "MASS":
		return c.oneOf("g mg µg ug")
	case "VOLUME":
		return c.oneOf("L mL")
	case "TIME":
		return c.oneOf("s min h d h h h")
	}
	return part
}

// program answers lines mostly in their order, with gaps of many kinds.
func (c *chance) program() string {
	var out strings.Builder
	for _, f := range c.lines() {
		for _, part := range f.parts {
			token := c.token(part)
			if !strings.Contains("/;", part) {
				out.WriteString([]string{" ", " ", " ", "\n", "  ", " \n\n "}[c.below(6)])
			}
			if c.below(150) > 0 {
				out.WriteString(token)
			}
			if c.below(400) == 0 {
				out.WriteString([]string{"\t", ";", "x", "\xff", "1", "."}[c.below(6)])
			}
		}
	}
	text := out.String()
	if c.below(20) == 0 {
		return text[:c.below(len(text)+1)]
	}
	return text
}

func (c *chance) lines() []lineForm {
	lines := []lineForm{lineForms[0], lineForms[1]}
	for range c.below(3) {
		lines = append(lines, lineForms[2])
	}
	if c.below(2) == 0 {
		lines = append(lines, lineForms[3])
	}
	for range c.below(9) {
		lines = append(lines, lineForms[4+c.below(len(lineForms)-4)])
	}
	if c.below(20) == 0 {
		lines = append(lines, lineForms[c.below(len(lineForms))])
	}
	return lines
}

// checkMany looks at made-up programs, among which each error has its share.
func checkMany(t *testing.T, seed uint64, count int, check func(*testing.T, string) Errno) {
	t.Helper()
	c := chance{state: seed}
	seen := make(map[Errno]int)
	for range count {
		seen[check(t, c.program())]++
	}
	for _, e := range []Errno{OK, ErrForm, ErrUnit, ErrNone, ErrZero, ErrTime, ErrStiff} {
		if seen[e] < count/400 {
			t.Errorf("of the programs only %d made the error %d: %v", seen[e], e, seen)
		}
	}
}

func TestPrintAgainstReference(t *testing.T) { checkMany(t, 1, 40000, checkPrint) }
