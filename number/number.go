// Package number takes the texts of numbers apart (P2) and takes offsets off them (P14).
package number

import (
	"strings"

	"phrases/api"
)

// Number is a number's text, taken apart. The digits stay texts: they are up to thirty, and the noughts behind the point count.
type Number struct {
	Minus  bool
	Whole  string // the digits ahead of the point, at least one
	Behind string // the digits behind the point; empty if there is no point
}

// Parse takes a text apart: ErrNumber, if it is no number.
func Parse(s string) (Number, error) {
	rest, minus := strings.CutPrefix(s, "-")
	whole, behind, point := strings.Cut(rest, ".")
	switch {
	case len(whole)+len(behind) > api.MaxDigits:
		return Number{}, api.ErrNumber
	case !isWhole(whole), point && !isDigits(behind):
		return Number{}, api.ErrNumber
	case minus && isZero(whole) && isZero(behind):
		return Number{}, api.ErrNumber
	}
	return Number{Minus: minus, Whole: whole, Behind: behind}, nil
}

// isDigits: the digits of numbers are 0 to 9 alone, whatever else counts as a digit elsewhere.
func isDigits(s string) bool {
	for _, c := range s {
		if c < '0' || c > '9' {
			return false
		}
	}
	return s != ""
}

func isWhole(s string) bool {
	return isDigits(s) && (s == "0" || s[0] != '0')
}

// isZero holds of no digits, too, so that it may be asked of both sides of a point that is not there.
func isZero(digits string) bool {
	return strings.Trim(digits, "0") == ""
}
