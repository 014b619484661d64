package number

import (
	"math/big"
	"strconv"
	"strings"
)

// Is tells if a number is equal to a whole one, whatever noughts stand behind its point.
func (n Number) Is(v uint32) bool {
	return !n.Minus && n.Whole == strconv.FormatUint(uint64(v), 10) && isZero(n.Behind)
}

// Less is a number less an offset (P14). Below zero it may have a digit more than the text of a number may have.
func (n Number) Less(offset uint32) Number {
	places := len(n.Behind)
	left := n.inUnits()
	left.Sub(left, unitsOf(offset, places))
	digits := new(big.Int).Abs(left).String()
	// At least one digit stands ahead of the point.
	digits = strings.Repeat("0", max(0, places+1-len(digits))) + digits
	point := len(digits) - places
	return Number{Minus: left.Sign() < 0, Whole: digits[:point], Behind: digits[point:]}
}

// inUnits is a number as a whole one, counted in units of its last digit.
func (n Number) inUnits() *big.Int {
	units, _ := new(big.Int).SetString(n.Whole+n.Behind, 10)
	if n.Minus {
		units.Neg(units)
	}
	return units
}

// unitsOf counts a whole number in units of a digit that stands so many places behind the point.
func unitsOf(v uint32, places int) *big.Int {
	units := new(big.Int).Exp(big.NewInt(10), big.NewInt(int64(places)), nil)
	return units.Mul(units, big.NewInt(int64(v)))
}
