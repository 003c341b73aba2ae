package dose

import (
	"math/big"
	"regexp"
	"strconv"
	"strings"
)

// A program is told here apart from the program's own way: each line is one of
// a list of forms, and of those the ones that the tokens so far fit are kept.

type piece struct {
	text  string
	place int
}

var (
	pieceForm  = regexp.MustCompile(`^(?:[0-9]+(?:\.[0-9]*)?|[A-Za-z\x{b5}]+|[/;])`)
	numberForm = regexp.MustCompile(`^[0-9]+(?:\.[0-9]+)?$`)
)

var unitSizes = map[string]map[string]int64{
	"MASS":   {"g": 1000000, "mg": 1000, "µg": 1, "ug": 1},
	"VOLUME": {"L": 1000, "mL": 1},
	"TIME":   {"s": 1, "min": 60, "h": 3600, "d": 86400},
}

// lineForm is a line's form; lines of a lower rank stand ahead of others.
type lineForm struct {
	rank, most int
	group      string // what most counts
	parts      []string
}

var lineForms = []lineForm{
	newForm(0, 1, "central NUMBER VOLUME ;"),
	newForm(1, 1, "out NUMBER / TIME ;"),
	newForm(2, 3, "side NUMBER / TIME NUMBER / TIME ;"),
	newForm(3, 1, "depot NUMBER / TIME ;"),
	newForm(4, 8, "dose NUMBER MASS into central at NUMBER TIME ;"),
	newForm(4, 8, "dose NUMBER MASS into depot at NUMBER TIME ;"),
	newForm(4, 3, "infuse NUMBER MASS / TIME from NUMBER TIME to NUMBER TIME ;"),
	newForm(4, 8, "read central at NUMBER TIME in MASS ;"),
	newForm(4, 8, "read side NUMBER at NUMBER TIME in MASS ;"),
	newForm(4, 8, "read depot at NUMBER TIME in MASS ;"),
	newForm(4, 8, "read gone at NUMBER TIME in MASS ;"),
	newForm(4, 8, "read total at NUMBER TIME in MASS ;"),
	newForm(4, 8, "read level at NUMBER TIME in MASS / VOLUME ;"),
}

func newForm(rank, most int, form string) lineForm {
	parts := strings.Fields(form)
	return lineForm{rank, most, parts[0], parts}
}

// fits says whether a token can stand for a part of a form.
func fits(text, part string) bool {
	if part == "NUMBER" {
		return numberForm.MatchString(text) && len(strings.ReplaceAll(text, ".", "")) <= 6
	}
	if sizes, ok := unitSizes[part]; ok {
		return sizes[text] > 0
	}
	return text == part
}

func isUnitPart(part string) bool { return unitSizes[part] != nil }

func isUnitText(text string) bool {
	return fits(text, "MASS") || fits(text, "VOLUME") || fits(text, "TIME")
}

// nextPiece answers the token at or behind a place, and the place behind it;
// what is no token is a piece that fits nothing.
func nextPiece(text string, from int) (piece, int) {
	from = len(text) - len(strings.TrimLeft(text[from:], " \n"))
	found := pieceForm.FindString(text[from:])
	return piece{found, from}, from + len(found)
}

// formsAtLine answers which forms can stand behind those lines.
func formsAtLine(lines [][]piece) []lineForm {
	counts := make(map[string]int)
	for _, line := range lines {
		counts[line[0].text]++
	}
	var open []lineForm
	for _, f := range lineForms {
		rank := 0
		for _, g := range lineForms {
			if counts[g.group] > 0 {
				rank = max(rank, g.rank)
			}
		}
		inTurn := f.rank >= rank && (f.rank < 1 || counts["central"] == 1) && (f.rank < 2 || counts["out"] == 1)
		if inTurn && counts[f.group] < f.most {
			open = append(open, f)
		}
	}
	return open
}

// wantedLines answers a program's lines, or its first error from the left.
func wantedLines(text string) ([][]piece, Errno, int) {
	var lines [][]piece
	var line []piece
	forms := formsAtLine(nil)
	for from := 0; ; {
		p, behind := nextPiece(text, from)
		if p.place == len(text) && len(line) == 0 && len(lines) >= 2 {
			return lines, OK, 0
		}
		var kept []lineForm
		unit := false
		for _, f := range forms {
			part := f.parts[len(line)]
			unit = unit || isUnitPart(part)
			if fits(p.text, part) {
				kept = append(kept, f)
			}
		}
		if len(kept) == 0 {
			if unit && isUnitText(p.text) {
				return nil, ErrUnit, p.place
			}
			return nil, ErrForm, p.place
		}
		forms, line, from = kept, append(line, p), behind
		if p.text == ";" {
			lines, line = append(lines, line), nil
			forms = formsAtLine(lines)
		}
	}
}

// hundredThousandths answers a number, made whole.
func hundredThousandths(text string) *big.Int {
	whole, part, _ := strings.Cut(text, ".")
	n, _ := new(big.Int).SetString(whole+(part + "00000")[:5], 10)
	return n
}

// inSeconds answers a time, in hundred thousandths.
func inSeconds(number, unit piece) *big.Int {
	return new(big.Int).Mul(hundredThousandths(number.text), big.NewInt(unitSizes["TIME"][unit.text]))
}

// wantedMeaning answers the error in what lines mean, the least place first.
func wantedMeaning(lines [][]piece) (Errno, int) {
	if hundredThousandths(lines[0][1].text).Sign() == 0 {
		return ErrZero, lines[0][1].place
	}
	sides, depots := 0, 0
	for _, line := range lines {
		switch line[0].text {
		case "side":
			sides++
		case "depot":
			depots++
		case "dose":
			if line[4].text == "depot" && depots == 0 {
				return ErrNone, line[4].place
			}
		case "infuse":
			if inSeconds(line[6], line[7]).Cmp(inSeconds(line[9], line[10])) >= 0 {
				return ErrTime, line[9].place
			}
		case "read":
			if line[1].text == "depot" && depots == 0 {
				return ErrNone, line[1].place
			}
			if n, _ := strconv.ParseFloat(line[2].text, 64); line[1].text == "side" && n != 1 && n != 2 && n != 3 || n > float64(sides) {
				return ErrNone, line[2].place
			}
		}
	}
	if isStiff(lines) {
		return ErrStiff, 0
	}
	return OK, 0
}

// isStiff takes the rates by the day, so that all is whole.
func isStiff(lines [][]piece) bool {
	rates, latest := new(big.Int), new(big.Int)
	for _, line := range lines {
		for i := 0; i+2 < len(line); i++ {
			switch {
			case !fits(line[i].text, "NUMBER"):
			case fits(line[i+1].text, "TIME"):
				if at := inSeconds(line[i], line[i+1]); at.Cmp(latest) > 0 {
					latest = at
				}
			case line[i+1].text == "/":
				perDay := big.NewInt(86400 / unitSizes["TIME"][line[i+2].text])
				rates.Add(rates, perDay.Mul(perDay, hundredThousandths(line[i].text)))
			}
		}
	}
	most, _ := new(big.Int).SetString("6912000000000000", 10) // 8 turns, a day has 86400 s, twice 100000
	return rates.Mul(rates, latest).Cmp(most) > 0
}

func wantedText(lines [][]piece) string {
	var words []string
	for _, line := range lines {
		for _, p := range line {
			word := p.text
			if n, err := strconv.ParseFloat(word, 64); err == nil {
				word = strconv.FormatFloat(n, 'f', -1, 64)
			}
			if word == "ug" {
				word = "µg"
			}
			words = append(words, word)
		}
	}
	return strings.NewReplacer(" ;", ";\n", "/ ", "/").Replace(strings.Join(words, " "))
}

// wantedPrint answers what the document asks of Print.
func wantedPrint(program string) (string, Errno, int) {
	if len(program) > 600 {
		return "", ErrLong, 0
	}
	lines, e, place := wantedLines(program)
	if e != OK {
		return "", e, place
	}
	if e, place = wantedMeaning(lines); e != OK {
		return "", e, place
	}
	return strings.ReplaceAll(wantedText(lines), "\n ", "\n"), OK, 0
}
