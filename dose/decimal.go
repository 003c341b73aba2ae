package dose

import (
	"math/big"
	"strconv"
	"strings"
)

const (
	maxText  = 30
	maxPower = 400
)

func isDecimal(text string) bool {
	digits, power, scaled := strings.Cut(strings.TrimPrefix(text, "-"), "e")
	return isFraction(digits) && (!scaled || isPower(power))
}

func isFraction(text string) bool {
	whole, part, dotted := strings.Cut(text, ".")
	return isDigits(whole) && (!dotted || isDigits(part))
}

func isPower(text string) bool {
	if text != "" && (text[0] == '-' || text[0] == '+') {
		text = text[1:]
	}
	if !isDigits(text) {
		return false
	}
	power, err := strconv.Atoi(text)
	return err == nil && power <= maxPower
}

func isDigits(text string) bool {
	for i := range len(text) {
		if text[i] < '0' || text[i] > '9' {
			return false
		}
	}
	return text != ""
}

// exactly answers what a text says as a fraction, if it is a decimal.
func exactly(text string) (*big.Rat, bool) {
	if !isDecimal(text) {
		return nil, false
	}
	return new(big.Rat).SetString(text)
}

// nearest answers the number nearest to a decimal. The error can be left: it
// only tells that this is an infinity.
func nearest(decimal string) float64 {
	near, _ := strconv.ParseFloat(decimal, 64)
	return near
}
