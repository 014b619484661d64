package plural

import "phrases/number"

// condition is what a rule, or a piece of one, became.
type condition func(number.Number) bool

func both(a, b condition) condition {
	return func(n number.Number) bool { return a(n) && b(n) }
}

func either(a, b condition) condition {
	return func(n number.Number) bool { return a(n) || b(n) }
}

// turned is a condition, or the one that holds if that does not.
func turned(c condition, not bool) condition {
	return func(n number.Number) bool { return c(n) != not }
}

// span holds of the whole numbers from first to last.
func span(of operand, first, last uint64) condition {
	return func(n number.Number) bool {
		a := of(n)
		w := a.whole()
		return !a.broken && first <= w && w <= last
	}
}

// stretch holds of all numbers from first to last.
func stretch(of operand, first, last uint64) condition {
	return func(n number.Number) bool {
		a := of(n)
		w := a.whole()
		return first <= w && (w < last || w == last && !a.broken)
	}
}
