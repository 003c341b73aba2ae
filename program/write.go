package program

import "strings"

// Text answers the program written out in the one way there is (P10).
func (said *Program) Text() string {
	var out strings.Builder
	gap := ""
	for _, t := range said.tokens {
		switch {
		case t.kind == end:
		case t.text == ";":
			out.WriteString(";\n")
			gap = ""
		case t.text == "/":
			out.WriteString(gap + "/")
			gap = ""
		default:
			out.WriteString(gap + plain(t))
			gap = " "
		}
	}
	return out.String()
}

func plain(t token) string {
	switch {
	case t.kind == number:
		return plainNumber(t.text)
	case t.text == typedMicrogram:
		return microgram
	}
	return t.text
}

// plainNumber answers a number without needless zeros.
func plainNumber(text string) string {
	whole, part, _ := strings.Cut(text, ".")
	whole, part = strings.TrimLeft(whole, "0"), strings.TrimRight(part, "0")
	if whole == "" {
		whole = "0"
	}
	if part == "" {
		return whole
	}
	return whole + "." + part
}
