package program

import (
	"strings"
	"unicode/utf8"
)

const maxDigits = 6

type kind int

const (
	end   kind = iota // of the text
	wrong             // what is no token
	number
	word
	sign
)

type token struct {
	kind  kind
	text  string
	place int
}

// tokensOf answers a text's tokens, from the left. The last one, and it alone,
// is the text's end or what is no token.
func tokensOf(text string) []token {
	var list []token
	place := 0
	for {
		place += run(text[place:], isBlank)
		kind, length := first(text[place:])
		list = append(list, token{kind, text[place : place+length], place})
		if kind == end || kind == wrong {
			return list
		}
		place += length
	}
}

// first answers of which kind a text's beginning is, and its bytes.
func first(text string) (kind, int) {
	r, size := utf8.DecodeRuneInString(text)
	switch {
	case size == 0:
		return end, 0
	case isDigit(r):
		return firstNumber(text)
	case isLetter(r):
		return word, run(text, isLetter)
	case r == '/' || r == ';':
		return sign, size
	}
	return wrong, size
}

// firstNumber is first, where a digit stands. What is too long is not cut: that
// would leave two numbers where one was written.
func firstNumber(text string) (kind, int) {
	length := run(text, isDigit)
	digits := length
	if strings.HasPrefix(text[length:], ".") {
		behind := run(text[length+1:], isDigit)
		digits += behind
		length += 1 + behind
	}
	if digits > maxDigits || text[length-1] == '.' {
		return wrong, length
	}
	return number, length
}

// run answers how many bytes at a text's beginning are of runes that belong.
func run(text string, belongs func(rune) bool) int {
	for place, r := range text {
		if !belongs(r) {
			return place
		}
	}
	return len(text)
}

func isBlank(r rune) bool { return r == ' ' || r == '\n' }

func isDigit(r rune) bool { return '0' <= r && r <= '9' }

func isLetter(r rune) bool {
	return 'A' <= r && r <= 'Z' || 'a' <= r && r <= 'z' || r == '\u00b5'
}
