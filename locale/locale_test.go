package locale

import (
	"errors"
	"reflect"
	"strings"
	"testing"

	"phrases/api"
	"phrases/number"
)

var english = api.Locale{Minus: '-', Point: '.', Group: ',', First: 3}

// but is the English locale with something changed.
func but(change func(l *api.Locale)) api.Locale {
	l := english
	change(&l)
	return l
}

func TestSigns(t *testing.T) {
	for _, c := range []struct {
		r     rune
		right bool
	}{
		{1, true}, {'-', true}, {0x7F, true}, {0x80, true}, {0xD7FF, true}, {0xE000, true}, {0xFFFD, true}, {0xFFFE, true}, {0xFFFF, true}, {0x10000, true}, {0x10FFFE, true}, {0x10FFFF, true},
		{0xD800, false}, {0xDBFF, false}, {0xDC00, false}, {0xDFFF, false}, {0x110000, false}, {0x7FFFFFFF, false}, {-1, false}, {-0x80000000, false},
	} {
		check(t, but(func(l *api.Locale) { l.Minus = c.r }), c.right, "Minus", c.r)
		check(t, but(func(l *api.Locale) { l.Point = c.r }), c.right, "Point", c.r)
		check(t, but(func(l *api.Locale) { l.Group = c.r }), c.right, "Group", c.r)
		check(t, but(func(l *api.Locale) { l.Group, l.First = c.r, 0 }), c.right, "Group with First 0", c.r)
	}
	check(t, but(func(l *api.Locale) { l.Minus = 0 }), false, "Minus", 0)
	check(t, but(func(l *api.Locale) { l.Point = 0 }), false, "Point", 0)
	check(t, but(func(l *api.Locale) { l.Group = 0 }), true, "Group", 0)
	check(t, api.Locale{}, false, "nothing", 0)
	check(t, api.Locale{Minus: '1', Point: '1', Group: '1'}, true, "all signs alike", 0)
}

func TestLengthsOfGroups(t *testing.T) {
	for k := range 256 {
		n := uint8(k)
		check(t, but(func(l *api.Locale) { l.First = n }), k <= 9, "First", n)
		check(t, but(func(l *api.Locale) { l.Next = n }), k <= 9, "Next", n)
		check(t, but(func(l *api.Locale) { l.First, l.Group = n, 0 }), k <= 9, "First without Group", n)
		check(t, but(func(l *api.Locale) { l.First, l.Next = 0, n }), k <= 9, "Next with First 0", n)
	}
}

func TestDigits(t *testing.T) {
	for _, c := range []struct {
		digits string
		right  bool
	}{
		{"", true}, {"0123456789", true}, {"9876543210", true}, {"aaaaaaaaaa", true}, {strings.Repeat("\x00", 10), true}, {strings.Repeat("\u0660", 10), true}, {strings.Repeat("\U0010FFFF", 10), true}, {strings.Repeat("\ufffd", 10), true},
		{"0", false}, {"012345678", false}, {"01234567890", false}, {"\u0660\u0661\u0662\u0663\u0664", false}, {strings.Repeat("\u0660", 9), false}, {strings.Repeat("\u0660", 11), false}, {strings.Repeat("0", 256+10), false}, {strings.Repeat("0", 100000), false},
		{"012345678\xff", false}, {"\x80123456789", false}, {"0123456789\xe2", false}, {"012345678\xe2\x82", false}, {"012345678\xed\xa0\x80", false}, {"012345678\xc0\x80", false}, {"012345678\xf4\x90\x80\x80", false}, {strings.Repeat("\xff", 10), false},
	} {
		check(t, but(func(l *api.Locale) { l.Digits = c.digits }), c.right, "Digits", c.digits)
	}
}

func check(t *testing.T, l api.Locale, right bool, what string, value any) {
	t.Helper()
	got, err := New(l)
	switch {
	case right && err != nil:
		t.Errorf("P3: %s %.40q: %v", what, value, err)
	case !right && (!reflect.DeepEqual(got, Locale{}) || !errors.Is(err, api.ErrLocale)):
		t.Errorf("P3: %s %.40q: %v, want ErrLocale and nothing beside it", what, value, err)
	}
}

func TestWrite(t *testing.T) {
	arabic := but(func(l *api.Locale) {
		l.Point, l.Group, l.Digits = '\u066b', '\u066c', "\u0660\u0661\u0662\u0663\u0664\u0665\u0666\u0667\u0668\u0669"
	})
	letters := but(func(l *api.Locale) { l.Minus, l.Point, l.Group, l.First, l.Digits = '0', '1', '2', 1, "zoTtfFsSen" })
	for _, c := range []struct {
		s    string
		l    api.Locale
		want string
	}{
		{"0", english, "0"}, {"0.00", english, "0.00"}, {"1", english, "1"}, {"1.0", english, "1.0"}, {"-0.5", english, "-0.5"},
		{"100", english, "100"}, {"-100", english, "-100"}, {"1000", english, "1,000"}, {"-100000", english, "-100,000"}, {"-1234567.50", english, "-1,234,567.50"}, {"1.23456789", english, "1.23456789"},
		{"1234567", but(func(l *api.Locale) { l.Next = 2 }), "12,34,567"},
		{"1234567", but(func(l *api.Locale) { l.First = 0 }), "1234567"},
		{"1234567", but(func(l *api.Locale) { l.First, l.Next = 0, 2 }), "1234567"},
		{"1234567", but(func(l *api.Locale) { l.Group, l.Next = 0, 2 }), "1234567"},
		{"1234567890123456789", but(func(l *api.Locale) { l.First, l.Next = 9, 9 }), "1,234567890,123456789"},
		{"12345678901", but(func(l *api.Locale) { l.First, l.Next = 9, 1 }), "1,2,345678901"},
		{"12345678901", but(func(l *api.Locale) { l.First, l.Next = 1, 9 }), "1,234567890,1"},
		{"-9876543210.0123456789", arabic, "-\u0669\u066c\u0668\u0667\u0666\u066c\u0665\u0664\u0663\u066c\u0662\u0661\u0660\u066b\u0660\u0661\u0662\u0663\u0664\u0665\u0666\u0667\u0668\u0669"},
		{"-9876.54321", letters, "0n2e2S2s1FftTo"},
	} {
		if got := write(t, c.s, c.l); got != c.want {
			t.Errorf("P4: %q is written %q, want %q", c.s, got, c.want)
		}
	}
}

// TestGroups cuts groups off the end one by one, which P4 asks for in other words, at all lengths.
func TestGroups(t *testing.T) {
	digits := "123456789012345678901234567890"
	for first := range uint8(10) {
		for next := range uint8(10) {
			l := but(func(l *api.Locale) { l.First, l.Next = first, next })
			for n := 1; n <= len(digits); n++ {
				want := cut(digits[:n], int(first), int(next))
				if got := write(t, digits[:n], l); got != want {
					t.Fatalf("P4: First %d, Next %d: %q, want %q", first, next, got, want)
				}
			}
		}
	}
}

func cut(s string, first, next int) string {
	if first == 0 || len(s) <= first {
		return s
	}
	if next == 0 {
		next = first
	}
	head, tail := s[:len(s)-first], s[len(s)-first:]
	return cut(head, next, next) + "," + tail
}

func write(t *testing.T, s string, l api.Locale) string {
	t.Helper()
	n, err := number.Parse(s)
	if err != nil {
		t.Fatal(s, err)
	}
	to, err := New(l)
	if err != nil {
		t.Fatal(l, err)
	}
	return to.Write(n)
}
