package program

import (
	"math/big"
	"strings"
	"testing"
)

const body = "central 5 L; out 0.36 /h; side 1 /min 0.5 /d; side 3 /s 0 /s; depot 12 /min;"

func said(t *testing.T, text string) *Program {
	t.Helper()
	p, fault := Parse(text)
	if fault != nil {
		t.Fatalf("Parse(%q): reason %d, place %d", text, fault.Reason, fault.Place)
	}
	return p
}

func same(t *testing.T, name string, got *big.Rat, want string) {
	t.Helper()
	if got.RatString() != want {
		t.Errorf("%s is %s, want %s", name, got.RatString(), want)
	}
}

func TestBody(t *testing.T) {
	p := said(t, body)
	same(t, "the volume", p.Volume.Value, "5000")
	same(t, "out", p.Out, "1/10000")
	if len(p.Sides) != 2 {
		t.Fatalf("%d sides", len(p.Sides))
	}
	same(t, "to side 1", p.Sides[0].There, "1/60")
	same(t, "back from side 1", p.Sides[0].Back, "1/172800")
	same(t, "to side 2", p.Sides[1].There, "3")
	same(t, "back from side 2", p.Sides[1].Back, "0")
	same(t, "the depot's rate", p.Depot, "1/5")
	if bare := said(t, "central 2.5 mL; out 1 /s;"); bare.Depot != nil || bare.Sides != nil || bare.Volume.Value.RatString() != "5/2" {
		t.Errorf("a body with nothing beside it: %+v", bare)
	}
}

func TestDoses(t *testing.T) {
	const doses = "central 1 L; out 0 /h; depot 0 /h; dose 2 g into depot at 1 d; dose 2.5 ug into central at 010 min;"
	p := said(t, doses)
	if len(p.Doses) != 2 || p.Doses[0].Into != Depot || p.Doses[1].Into != Central {
		t.Fatalf("doses: %+v", p.Doses)
	}
	same(t, "the first mass", p.Doses[0].Mass.Value, "2000000")
	same(t, "the first time", p.Doses[0].At.Value, "86400")
	same(t, "the second mass", p.Doses[1].Mass.Value, "5/2")
	same(t, "the second time", p.Doses[1].At.Value, "600")
	if at := p.Doses[1].Place; at != strings.LastIndex(doses, Central) {
		t.Errorf("the second dose's word is at %d", at)
	}
}

func TestInfusions(t *testing.T) {
	p := said(t, "central 1 L; out 0 /h; infuse 7.2 mg /h from 08.5 s to 0.5 min;")
	if len(p.Infusions) != 1 {
		t.Fatalf("%d infusions", len(p.Infusions))
	}
	same(t, "the speed", p.Infusions[0].Speed, "2")
	same(t, "the beginning", p.Infusions[0].From.Value, "17/2")
	same(t, "the end", p.Infusions[0].To.Value, "30")
}

func TestReads(t *testing.T) {
	p := said(t, "central 1 L; out 0 /h; side 0 /h 0 /h; depot 0 /h; read central at 0 s in g; read side 1.0 at 1 s in mg; read depot at 2 s in ug;"+
		"read gone at 3 s in µg; read total at 4 s in g; read level at 5 s in mg /L; read level at 6 s in g /mL;")
	want := []struct{ what, at, unit string }{
		{Central, "0", "1000000"}, {Side, "1", "1000"}, {Depot, "2", "1"}, {Gone, "3", "1"}, {Total, "4", "1000000"}, {Level, "5", "1"}, {Level, "6", "1000000"},
	}
	if len(p.Reads) != len(want) {
		t.Fatalf("%d reads", len(p.Reads))
	}
	for i, w := range want {
		if p.Reads[i].What != w.what {
			t.Errorf("read %d is of %q, want %q", i, p.Reads[i].What, w.what)
		}
		same(t, "a read's time", p.Reads[i].At.Value, w.at)
		same(t, "a read's unit", p.Reads[i].Unit, w.unit)
	}
	same(t, "the side", p.Reads[1].Side.Value, "1")
}

func TestTokens(t *testing.T) {
	for _, c := range []struct{ text, tokens string }{
		{"", "0:"},
		{" \n ", "3:"},
		{"5mL/h;", "0:5 1:mL 3:/ 4:h 5:; 6:"},
		{"\n\nµgµ  0.5", "2:µgµ 9:0.5 12:"},
		{"12.34.56", "0:12.34 5:."},
		{"12..34", "0:12."},
		{"5.", "0:5."},
		{"5.x", "0:5."},
		{"123456 12345.6 1.23456", "0:123456 7:12345.6 15:1.23456 22:"},
		{"1 1234567 1", "0:1 2:1234567"},
		{"1 12.34567 1", "0:1 2:12.34567"},
		{"a1b", "0:a 1:1 2:b 3:"},
		{"a\tb", "0:a 1:\t"},
		{"aμ", "0:a 1:μ"},
		{"a\xc2", "0:a 1:\xc2"},
		{"a\xb5", "0:a 1:\xb5"},
		{"aé", "0:a 1:é"},
		{"1١", "0:1 1:١"},
	} {
		var got []string
		for _, each := range tokensOf(c.text) {
			got = append(got, big.NewInt(int64(each.place)).String()+":"+each.text)
		}
		if strings.Join(got, " ") != c.tokens {
			t.Errorf("tokens of %q: %q, want %q", c.text, got, c.tokens)
		}
	}
}
