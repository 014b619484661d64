package plural

import (
	"strconv"
	"strings"

	"phrases/api"
	"phrases/number"
)

// amount is what an operand is of a number. The digits stay a text: they are up to thirty, and one more where an offset was taken off.
type amount struct {
	digits string // ahead of the point; none, and noughts ahead of others, are allowed
	broken bool   // it is not whole: behind the point stands more than noughts
}

type operand func(number.Number) amount

// operandOf makes a function of an operand's word; nil, if it is none.
func operandOf(word string) operand {
	switch word {
	case "n":
		return func(n number.Number) amount { return amount{n.Whole, withoutEnd(n.Behind) != ""} }
	case "i":
		return func(n number.Number) amount { return amount{digits: n.Whole} }
	case "v":
		return func(n number.Number) amount { return amount{digits: lengthOf(n.Behind)} }
	case "w":
		return func(n number.Number) amount { return amount{digits: lengthOf(withoutEnd(n.Behind))} }
	case "f":
		return func(n number.Number) amount { return amount{digits: n.Behind} }
	case "t":
		return func(n number.Number) amount { return amount{digits: withoutEnd(n.Behind)} }
	}
	return nil
}

// withoutEnd is digits without the noughts at their end.
func withoutEnd(digits string) string { return strings.TrimRight(digits, "0") }

func lengthOf(digits string) string { return strconv.Itoa(len(digits)) }

// modulo makes an operand of what is left of another. What is behind the point stays, m being whole.
func modulo(of operand, m uint64) operand {
	return func(n number.Number) amount {
		a := of(n)
		return amount{strconv.FormatUint(rest(a.digits, m), 10), a.broken}
	}
}

// rest goes digit by digit, since so many of them are too much for a word; m has so few that nothing wraps round.
func rest(digits string, m uint64) uint64 {
	var left uint64
	for _, c := range digits {
		left = (left*10 + uint64(c-'0')) % m
	}
	return left
}

// beyond is more than any number of a rule.
const beyond = 1_000_000_000

// whole is what is ahead of an amount's point, or beyond, if it is more than that.
func (a amount) whole() uint64 {
	digits := strings.TrimLeft(a.digits, "0")
	if len(digits) > api.MaxWhole {
		return beyond
	}
	// So few digits are less than beyond: all of them is left.
	return rest(digits, beyond)
}
