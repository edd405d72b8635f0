package num

import (
	"dicebox/api"
	"dicebox/exact"
	"strings"
)

// maxLength is the greatest number of bytes of a text that Parse accepts.
const maxLength = 200

// Parse returns the number that text describes. It returns ErrForm if text does not have the form of
// a number, and ErrFull if it is too long or the number is not valid.
func Parse(text string) (api.Num, api.Errno) {
	body, minus := strings.CutPrefix(text, "-")
	top, low, fraction := strings.Cut(body, "/")
	if !fraction {
		low = "1"
	}
	if !isDecimal(top) || !isDecimal(low) || strings.Trim(low, "0") == "" {
		return api.Num{}, api.ErrForm
	}
	if len(text) > maxLength {
		return api.Num{}, api.ErrFull
	}
	number := exact.Ratio(exact.Decimal(top), exact.Decimal(low))
	if minus {
		number = number.Neg()
	}
	return number.Num()
}

// isDecimal reports whether text consists of one or more decimal digits.
func isDecimal(text string) bool {
	for _, c := range []byte(text) {
		if c < '0' || c > '9' {
			return false
		}
	}
	return text != ""
}
