package dose

import (
	"math/big"
	"regexp"
	"strings"
	"testing"
)

var decimalForm = regexp.MustCompile(`^(-?)([0-9]+)(?:\.([0-9]+))?(?:e([-+]?)0*([0-9]{1,3}))?$`)

// reference answers what a text says, read apart from the program's own way,
// whether it has a sign, and whether it is a decimal.
func reference(text string) (*big.Rat, bool, bool) {
	parts := decimalForm.FindStringSubmatch(text)
	if parts == nil {
		return nil, false, false
	}
	power, _ := new(big.Int).SetString("0"+parts[5], 10)
	if power.Cmp(big.NewInt(400)) > 0 {
		return nil, false, false
	}
	digits, _ := new(big.Int).SetString(parts[1]+parts[2]+parts[3], 10)
	ten := big.NewInt(10)
	scale := new(big.Rat).SetInt(new(big.Int).Exp(ten, power, nil))
	if parts[4] == "-" {
		scale.Inv(scale)
	}
	places := new(big.Int).Exp(ten, big.NewInt(int64(len(parts[3]))), nil)
	exact := new(big.Rat).SetFrac(digits, places)
	return exact.Mul(exact, scale), parts[1] == "-", true
}

func checkDecimal(t *testing.T, text string) {
	t.Helper()
	exact, signed, ok := reference(text)
	for _, up := range []bool{false, true} {
		got, e := Decimal(text, up)
		switch {
		case len(text) > 30:
			if got != 0 || e != ErrLong {
				t.Errorf("P8: Decimal(%q, %t) = %016x, %d, want ErrLong", text, up, got, e)
			}
		case !ok:
			if got != 0 || e != ErrForm {
				t.Errorf("P8: Decimal(%q, %t) = %016x, %d, want ErrForm", text, up, got, e)
			}
		case e != OK || !compareTo(exact).isRounded(got, up) || hasSign(got) != signed:
			t.Errorf("P8: Decimal(%q, %t) = %016x, %d", text, up, got, e)
		}
	}
}

func TestP8Answers(t *testing.T) {
	for _, c := range []struct {
		text     string
		down, up uint64
		e        Errno
	}{
		{"0", 0, 0, OK},
		{"-0", signBit, signBit, OK},
		{"-0.000e-400", signBit, signBit, OK},
		{"0e400", 0, 0, OK},
		{"0.1", 0x3fb9999999999999, 0x3fb999999999999a, OK},
		{"-0.1", 0xbfb999999999999a, 0xbfb9999999999999, OK},
		{"0010.50", 0x4025000000000000, 0x4025000000000000, OK},
		{"1e400", greatest, infinity, OK},
		{"-1e400", infinity | signBit, greatest | signBit, OK},
		{"1e+400", greatest, infinity, OK},
		{"1e-400", 0, 1, OK},
		{"-1e-400", signBit | 1, signBit, OK},
		{"1e-000000000000000000000000400", 0, 1, OK},
		{"1e-0000000000000000000000000400", 0, 0, ErrLong},
		{"1e401", 0, 0, ErrForm},
		{"1e-401", 0, 0, ErrForm},
		{"0e401", 0, 0, ErrForm},
		{"1e99999999999999999999", 0, 0, ErrForm},
		{"1e18446744073709551617", 0, 0, ErrForm}, // 1, had it wrapped round
		{"1.7976931348623157e308", greatest - 1, greatest, OK},
		{"1.7976931348623158e308", greatest, infinity, OK},
		{"4.9e-324", 0, 1, OK},
		{"5e-324", 1, 2, OK},
		{"2e-324", 0, 1, OK},
		{"2.2250738585072014e-308", 0x0010000000000000, 0x0010000000000001, OK},
		{"9007199254740993", 0x4340000000000000, 0x4340000000000001, OK},
		{"0.00000000000000000000000000001", 0, 0, ErrLong},
		{".5", 0, 0, ErrForm},
	} {
		down, e := Decimal(c.text, false)
		up, f := Decimal(c.text, true)
		if down != c.down || up != c.up || e != c.e || f != c.e {
			t.Errorf("P8: Decimal(%q) = %016x, %d and %016x, %d, want %016x and %016x, %d", c.text, down, e, up, f, c.down, c.up, c.e)
		}
	}
}

func TestP8WrongTexts(t *testing.T) {
	for _, text := range []string{
		"", "-", "+", ".", "e", "-.", "-e", "e5", "-e5", "1.", ".1", "-.1", "1.e5", "1e", "1e-", "1e+", "1e+-5", "1e--5",
		"1e5.", "1e.5", "1e5.0", "1e5e5", "1E5", "+1", "--1", "-+1", "1-", "1..2", "1.2.3", "1.-2", "1.2-", " 1", "1 ",
		"1 2", "1\n", "\n1", "1\x00", "\x00", "1_000", "0x1", "0x1p4", "0b1", "0o7", "1p4", "1/2", "inf", "-inf", "Inf",
		"infinity", "nan", "NaN", "1,5", "١", "１", "1é", "\xff", "1\xff", "1e\xff", "1e5 ", "1e 5", "- 1",
	} {
		for _, up := range []bool{false, true} {
			if got, e := Decimal(text, up); got != 0 || e != ErrForm {
				t.Errorf("P8: Decimal(%q, %t) = %016x, %d, want ErrForm", text, up, got, e)
			}
		}
	}
}

// Every text of up to six of these bytes.
func TestP8ShortTexts(t *testing.T) {
	const letters = "-+.e049"
	texts := []string{""}
	for range 6 {
		var longer []string
		for _, text := range texts {
			for i := range len(letters) {
				longer = append(longer, text+letters[i:i+1])
			}
		}
		for _, text := range longer {
			checkForm(t, text)
		}
		texts = longer
	}
}

func checkForm(t *testing.T, text string) {
	t.Helper()
	want := ErrForm
	if _, _, ok := reference(text); ok {
		want = OK
	}
	if _, e := Decimal(text, true); e != want {
		t.Errorf("P8: Decimal(%q): %d, want %d", text, e, want)
	}
}

// Texts near every power, with few digits and with as many as fit.
func TestP8Powers(t *testing.T) {
	for power := -402; power <= 402; power++ {
		tail := "e" + big.NewInt(int64(power)).String()
		for _, digits := range []string{"1", "-9", "17.976931348623157", "-2.4703282292062327", "4.940656458412465", "000.0", "-0"} {
			checkDecimal(t, digits+tail)
		}
		full := "1234567890.12345678901234567890"[:30-len(tail)]
		checkDecimal(t, full+tail)
		checkDecimal(t, "9"+full+tail)
	}
}

func TestP8Lengths(t *testing.T) {
	for n := 1; n <= 34; n++ {
		nines := strings.Repeat("9", n)
		checkDecimal(t, nines)
		checkDecimal(t, "-"+nines)
		checkDecimal(t, "0."+nines)
		checkDecimal(t, "0."+strings.Repeat("0", n)+"7")
		checkDecimal(t, "1e"+strings.Repeat("0", n)+"400")
		checkDecimal(t, "1e"+strings.Repeat("0", n)+"401")
		checkDecimal(t, strings.Repeat("x", n))
		checkDecimal(t, strings.Repeat("µ", n))
	}
}

// Decimals about numbers, and about the middle between two.
func TestP8Numbers(t *testing.T) {
	for i, x := range append(scatter(4000), edges...) {
		if !isFinite(x) {
			continue
		}
		float, _ := new(big.Float).SetString(fraction(x).FloatString(1100))
		text := float.Text('e', 3+i%20)
		checkDecimal(t, text)
	}
	for odd := uint64(1) << 53; odd < 1<<53+200; odd++ {
		text := new(big.Int).SetUint64(odd).String()
		checkDecimal(t, text)
		checkDecimal(t, "-"+text+".000000001")
	}
}
