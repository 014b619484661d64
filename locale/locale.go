// Package locale checks locales (P3), writes numbers as they have it (P4) and tells categories by their rules.
package locale

import (
	"strings"
	"unicode/utf8"

	"phrases/api"
	"phrases/number"
	"phrases/plural"
)

// Locale is a locale that was found right. It holds nothing of the one that was handed in, whose owner may write into its lists.
type Locale struct {
	minus, point, group rune
	first, next         int // first 0: there are no groups; next is never 0 beside another first
	digits              [10]rune
	cardinal, ordinal   plural.Rules
}

// New checks a locale and makes it ready: ErrLocale, if it is none.
func New(l api.Locale) (Locale, error) {
	digits, ok := digitsOf(l.Digits)
	if !ok || !hasSigns(l) || l.First > api.MaxGroup || l.Next > api.MaxGroup {
		return Locale{}, api.ErrLocale
	}
	cardinal, err := plural.New(l.Cardinal)
	if err != nil {
		return Locale{}, api.ErrLocale
	}
	ordinal, err := plural.New(l.Ordinal)
	if err != nil {
		return Locale{}, api.ErrLocale
	}
	first, next := groupsOf(l)
	return Locale{
		minus: l.Minus, point: l.Point, group: l.Group,
		first: first, next: next,
		digits:   digits,
		cardinal: cardinal, ordinal: ordinal,
	}, nil
}

func hasSigns(l api.Locale) bool {
	return l.Minus != 0 && utf8.ValidRune(l.Minus) &&
		l.Point != 0 && utf8.ValidRune(l.Point) &&
		utf8.ValidRune(l.Group)
}

// groupsOf tells how long groups are, so that writing needn't ask again what a 0 stands for.
func groupsOf(l api.Locale) (first, next int) {
	switch {
	case l.Group == 0 || l.First == 0:
		return 0, 0
	case l.Next == 0:
		return int(l.First), int(l.First)
	}
	return int(l.First), int(l.Next)
}

// digitsOf tells the ten digits of a locale, and if they are right.
func digitsOf(s string) ([10]rune, bool) {
	if s == "" {
		return [10]rune{'0', '1', '2', '3', '4', '5', '6', '7', '8', '9'}, true
	}
	var digits [10]rune
	if !utf8.ValidString(s) || utf8.RuneCountInString(s) != len(digits) {
		return digits, false
	}
	k := 0
	for _, c := range s {
		digits[k] = c
		k++
	}
	return digits, true
}

// Write writes a number as the locale has it.
func (l Locale) Write(n number.Number) string {
	var b strings.Builder
	if n.Minus {
		b.WriteRune(l.minus)
	}
	for i, c := range n.Whole {
		if i > 0 && l.endsGroup(len(n.Whole)-i) {
			b.WriteRune(l.group)
		}
		b.WriteRune(l.digits[c-'0'])
	}
	if n.Behind != "" {
		b.WriteRune(l.point)
	}
	for _, c := range n.Behind {
		b.WriteRune(l.digits[c-'0'])
	}
	return b.String()
}

// endsGroup: does a group end where so many digits are left up to the point?
func (l Locale) endsGroup(left int) bool {
	return l.first != 0 && left >= l.first && (left-l.first)%l.next == 0
}

// Cardinal tells a number's category by the cardinal rules.
func (l Locale) Cardinal(n number.Number) string { return l.cardinal.Category(n) }

// Ordinal tells a number's category by the ordinal rules.
func (l Locale) Ordinal(n number.Number) string { return l.ordinal.Category(n) }
