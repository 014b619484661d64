package phrases_test

import (
	"errors"
	"slices"
	"strings"
	"testing"

	"phrases/api"
	"phrases/phrases"
	"phrases/plain"
)

// english is the locale of the document's examples.
func english() api.Locale {
	return api.Locale{
		Cardinal: []api.Rule{{Name: "one", When: "i = 1 and v = 0"}},
		Ordinal: []api.Rule{
			{Name: "one", When: "n % 10 = 1 and n % 100 != 11"},
			{Name: "two", When: "n % 10 = 2 and n % 100 != 12"},
			{Name: "few", When: "n % 10 = 3 and n % 100 != 13"},
		},
		Minus: '-', Point: '.', Group: ',', First: 3,
	}
}

func TestNumber(t *testing.T) {
	twos := english()
	twos.Next = 2
	for _, c := range []struct {
		s    string
		l    api.Locale
		want string
	}{
		{"-1234567.50", english(), "-1,234,567.50"},
		{"1234567", twos, "12,34,567"},
		{"1", english(), "1"}, {"1.0", english(), "1.0"}, {"1.00", english(), "1.00"},
		{strings.Repeat("1", 30), english(), strings.Repeat("111,", 9) + "111"},
	} {
		if got, err := phrases.Number(c.s, c.l); got != c.want || err != nil {
			t.Errorf("P4: Number(%q) = %q, %v, want %q", c.s, got, err, c.want)
		}
		if got, e := plain.Number(c.s, c.l); got != c.want || e != api.OK {
			t.Errorf("P4: plain.Number(%q) = %q, %d, want %q", c.s, got, e, c.want)
		}
	}
}

func TestNumberErrors(t *testing.T) {
	wrong := english()
	wrong.Digits = "012345678\xff"
	for _, c := range []struct {
		s    string
		l    api.Locale
		want api.Errno
	}{
		{"-0", english(), api.ErrNumber},
		{"", english(), api.ErrNumber},
		{strings.Repeat("1", 31), english(), api.ErrNumber},
		{"1", wrong, api.ErrLocale},
		{"1", api.Locale{}, api.ErrLocale},
		{"01", wrong, api.ErrLocale},
		{"", api.Locale{}, api.ErrLocale},
	} {
		got, err := phrases.Number(c.s, c.l)
		if got != "" || !isJust(err, c.want) {
			t.Errorf("P4, P1: Number(%q) = %q, %v, want %v and nothing beside it", c.s, got, err, c.want)
		}
		if got, e := plain.Number(c.s, c.l); got != "" || e != c.want {
			t.Errorf("P4, P1: plain.Number(%q) = %q, %d, want %d", c.s, got, e, c.want)
		}
	}
}

// isJust: errors.Is holds for that error, and for no other of them.
func isJust(err error, want api.Errno) bool {
	for e := api.ErrLong; e <= api.ErrNone; e++ {
		if errors.Is(err, e) != (e == want) {
			return false
		}
	}
	return true
}

// TestNumberEnds: P1: no text and no locale makes the call panic, and what it answers hangs on these alone.
func TestNumberEnds(t *testing.T) {
	texts := []string{"", "-", ".", "-.", "0", "-0", "1.", ".1", "\xff", "1\xff", "\x00", "-1234567890.123", strings.Repeat("0", 1000), strings.Repeat("\u0661", 40)}
	runes := []rune{-0x80000000, -1, 0, '-', 0xD800, 0xDFFF, 0xFFFD, 0x10FFFF, 0x110000, 0x7FFFFFFF}
	sizes := []uint8{0, 1, 9, 10, 128, 255}
	digits := []string{"", "0123456789", "012345678", "\xff", strings.Repeat("\xff", 10), strings.Repeat("\U0010FFFF", 10)}
	for _, s := range texts {
		for _, r := range runes {
			for _, n := range sizes {
				for _, d := range digits {
					l := api.Locale{Minus: r, Point: '.', Group: r, First: n, Next: 255 - n, Digits: d}
					same(t, s, l)
					l.Minus, l.Next = '-', n
					same(t, s, l)
				}
			}
		}
	}
}

func same(t *testing.T, s string, l api.Locale) {
	t.Helper()
	a, first := phrases.Number(s, l)
	b, again := phrases.Number(s, l)
	if a != b || first != again || (first == nil) != (a != "") {
		t.Errorf("P1: Number(%q, %+v) = %q, %v, then %q, %v", s, l, a, first, b, again)
	}
}

// TestNumberLeavesRules: P1: lists that are handed in are not written into.
func TestNumberLeavesRules(t *testing.T) {
	l := english()
	for _, s := range []string{"-1234.5", "x"} {
		phrases.Number(s, l)
		if was := english(); !slices.Equal(l.Cardinal, was.Cardinal) || !slices.Equal(l.Ordinal, was.Ordinal) {
			t.Errorf("P1: Number(%q) changed the rules: %+v", s, l)
		}
	}
}
