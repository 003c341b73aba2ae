package dose

import (
	"strings"
	"sync"
	"testing"
)

func TestErrnos(t *testing.T) {
	for i, e := range []Errno{OK, ErrLong, ErrForm, ErrUnit, ErrNone, ErrZero, ErrTime, ErrStiff} {
		if int(e) != i {
			t.Errorf("the constant number %d is %d", i, e)
		}
	}
}

func TestExamples(t *testing.T) {
	for i, c := range []struct{ got, want uint64 }{
		{Div(one, three, false), 0x3fd5555555555555},
		{Div(one, three, true), 0x3fd5555555555556},
		{Add(one, one, true), two},
		{Root(two, false), 0x3ff6a09e667f3bcc},
		{Root(two, true), 0x3ff6a09e667f3bcd},
		{Add(one, one|signBit, false), 0x8000000000000000},
		{Add(one, one|signBit, true), 0},
		{Div(one, 0, false), 0x7ff0000000000000},
		{Div(0, 0, true), 0x7ff8000000000000},
		{Mul(0x7fefffffffffffff, two, false), 0x7fefffffffffffff},
		{Mul(0x7fefffffffffffff, two, true), 0x7ff0000000000000},
		{Mul(1, 1, true), 1},
		{Mul(1, 1, false), 0},
	} {
		if c.got != c.want {
			t.Errorf("example %d: %016x, want %016x", i, c.got, c.want)
		}
	}
	for _, c := range []struct {
		text string
		up   bool
		want uint64
		e    Errno
	}{
		{"0.1", false, 0x3fb9999999999999, OK},
		{"0.1", true, 0x3fb999999999999a, OK},
		{"1e400", false, 0x7fefffffffffffff, OK},
		{".5", true, 0, ErrForm},
	} {
		if got, e := Decimal(c.text, c.up); got != c.want || e != c.e {
			t.Errorf("Decimal(%q, %t) = %016x, %d, want %016x, %d", c.text, c.up, got, e, c.want, c.e)
		}
	}
}

// scatteredTexts answers texts of bytes of all kinds, some near to decimals.
func scatteredTexts() []string {
	var texts []string
	const likely = "0123456789-+.e"
	for i, x := range scatter(20000) {
		text := make([]byte, i%33)
		for j := range text {
			x = x*6364136223846793005 + 1442695040888963407
			text[j] = byte(x >> 56)
			if i%2 == 0 {
				text[j] = likely[x>>40%uint64(len(likely))]
			}
		}
		texts = append(texts, string(text))
	}
	return texts
}

// That each call ends and does not panic is seen by its coming back.
func TestP1EveryInput(t *testing.T) {
	list := append(everyKind(), scatter(2000)...)
	for i, a := range list {
		b := list[(i*7+3)%len(list)]
		for _, up := range []bool{false, true} {
			Add(a, b, up)
			Mul(a, b, up)
			Div(a, b, up)
			Root(a, up)
		}
	}
	for _, text := range scatteredTexts() {
		checkDecimal(t, text)
		checkPrint(t, text)
		checkSolve(t, text)
	}
	c := chance{state: 2}
	for range 100 {
		for _, program := range []string{c.program(), c.solvable()} {
			for at := range len(program) {
				Print(program[:at])
				Print(program[at:])
				Solve(program[:at])
				Solve(program[at:])
			}
		}
	}
}

// A text that is too long is refused as such whatever it says, and unread: that
// takes no memory, and a great many calls with a great text no time.
func TestP1LongTexts(t *testing.T) {
	great := strings.Repeat("1", 64<<20)
	for _, text := range []string{strings.Repeat("1", 31), strings.Repeat("x", 31), strings.Repeat("\xff", 31), "1e" + strings.Repeat("9", 29), great} {
		for _, up := range []bool{false, true} {
			if got, e := Decimal(text, up); got != 0 || e != ErrLong {
				t.Errorf("P1: a text of %d bytes: %016x, %d, want ErrLong", len(text), got, e)
			}
		}
	}
	if n := testing.AllocsPerRun(100000, func() { Decimal(great, true) }); n != 0 {
		t.Errorf("P1: %v allocations for a text that is too long", n)
	}
	for _, program := range []string{great, strings.Repeat(" ", 601), strings.Repeat("\xff", 601), "central 0 mg;" + strings.Repeat("#", 588)} {
		if got, e, place := Print(program); got != "" || e != ErrLong || place != 0 {
			t.Errorf("P1: a program of %d bytes: %q, %d, %d, want ErrLong", len(program), got, e, place)
		}
	}
	for _, program := range []string{great, strings.Repeat(" ", 601), small + strings.Repeat("\n", 600)} {
		if got, e, place := Solve(program); len(got) != 0 || e != ErrLong || place != 0 {
			t.Errorf("P1: a program of %d bytes: %x, %d, %d, want ErrLong", len(program), got, e, place)
		}
	}
	if n := testing.AllocsPerRun(100000, func() { Print(great); Solve(great) }); n != 0 {
		t.Errorf("P1: %v allocations for a program that is too long", n)
	}
}

func TestP1ErrorsLeaveZero(t *testing.T) {
	for _, text := range []string{"", "1x", "7e401", "-", "-1.", strings.Repeat("7", 31), strings.Repeat("-", 31)} {
		for _, up := range []bool{false, true} {
			if got, e := Decimal(text, up); e == OK || got != 0 {
				t.Errorf("P1: Decimal(%q, %t) = %016x, %d", text, up, got, e)
			}
		}
	}
	for _, program := range []string{"", small + "x", "central 5 mg;", small + "read depot at 1 h in g;", "central 0 L; out 1 /h;", small + "infuse 1 g /h from 1 h to 1 h;", small + "read gone at 9 h in g;", strings.Repeat(" ", 601)} {
		if got, e, _ := Print(program); e == OK || got != "" {
			t.Errorf("P1: Print(%q) = %q, %d", program, got, e)
		}
		if got, e, _ := Solve(program); e == OK || len(got) != 0 {
			t.Errorf("P1: Solve(%q) = %x, %d", program, got, e)
		}
	}
}

type answers struct {
	numbers [8]uint64
	decimal [2]uint64
	errors  [4]Errno
	printed string
	solved  [8]Range
	places  [2]int
}

func ask(a, b uint64, text, program string) answers {
	var all answers
	for i, up := range []bool{false, true} {
		copy(all.numbers[4*i:], []uint64{Add(a, b, up), Mul(a, b, up), Div(a, b, up), Root(a, up)})
		all.decimal[i], all.errors[i] = Decimal(text, up)
	}
	all.printed, all.errors[2], all.places[0] = Print(program)
	var solved []Range
	solved, all.errors[3], all.places[1] = Solve(program)
	copy(all.solved[:], solved)
	clear(solved) // an answer is the caller's own
	return all
}

// The same questions in another order, and many at a time, have the same answers.
func TestP2NothingKept(t *testing.T) {
	numbers := append(everyKind(), scatter(500)...)
	texts := scatteredTexts()
	programs := make([]string, len(numbers))
	c := chance{state: 3}
	for i := range programs {
		programs[i] = c.solvable()
		if i%4 == 0 {
			programs[i] = c.program()
		}
	}
	question := func(i int) answers {
		return ask(numbers[i], numbers[len(numbers)-1-i], texts[2*i], programs[i])
	}
	first := make([]answers, len(numbers))
	for i := range numbers {
		first[i] = question(i)
	}
	var group sync.WaitGroup
	for range 8 {
		group.Go(func() {
			for i := len(numbers) - 1; i >= 0; i-- {
				if question(i) != first[i] {
					t.Errorf("P2: question %d is answered in two ways", i)
				}
			}
		})
	}
	group.Wait()
}
