package phrases_test

import (
	"errors"
	"strings"
	"testing"

	"phrases/api"
	"phrases/phrases"
	"phrases/plain"
)

// deep is so many arguments within each other, each with a branch.
func deep(n int) string {
	return strings.Repeat("{a,select,other{", n) + strings.Repeat("}}", n)
}

type faulty struct {
	p  string
	e  api.Errno
	at int
}

// faults are patterns with their first fault: at first the document's rows.
func faults() []faulty {
	return []faulty{
		{"}", api.ErrSyntax, 0}, {"a{", api.ErrSyntax, 2}, {"{x,date}", api.ErrSyntax, 3}, {"{x,plural,a{}other{}}", api.ErrSyntax, 10},
		{"{x,plural,=01{}other{}}", api.ErrSyntax, 12}, {"{x,plural,other{'}", api.ErrSyntax, 18}, {"\u00e9{", api.ErrSyntax, 2},
		{"{x,select,a{}}", api.ErrOther, 13}, {"{x,select,a{}other{}a{}}", api.ErrTwice, 20},
		{"{x,number}{x,select,other{}}", api.ErrKind, 10}, {"{x,select,a{{x,number}}}", api.ErrKind, 12},

		{strings.Repeat("a", 1001), api.ErrLong, 0}, {strings.Repeat("\u00e9", 501), api.ErrLong, 0}, {strings.Repeat("}", 1001), api.ErrLong, 0}, {strings.Repeat("\xff", 1001), api.ErrLong, 0},
		{strings.Repeat("a", 999) + "}", api.ErrSyntax, 999}, {strings.Repeat("a", 999) + "\xff", api.ErrText, 999},

		{"\x80", api.ErrText, 0}, {"\u00e9\U0001F600\xc3", api.ErrText, 2}, {"ab\xe2\x82", api.ErrText, 2}, {"\xe2\x82a", api.ErrText, 0}, {"{x,\xff", api.ErrText, 3},
		{"\ufffd\xff", api.ErrText, 1}, {"\xed\xbf\xbf", api.ErrText, 0}, {"\xf5\x80\x80\x80", api.ErrText, 0}, {"\xe0\x80\x80", api.ErrText, 0}, {"}\xff", api.ErrText, 1}, {"a\xc3\xa9\xa9", api.ErrText, 2},

		{"{", api.ErrSyntax, 1}, {"{ \n", api.ErrSyntax, 3}, {"{x", api.ErrSyntax, 2}, {"{x ", api.ErrSyntax, 3}, {"{x,", api.ErrSyntax, 3}, {"{x, ", api.ErrSyntax, 4},
		{"{{x}}", api.ErrSyntax, 1}, {"{#}", api.ErrSyntax, 1}, {"{9x}", api.ErrSyntax, 1}, {"{x.y}", api.ErrSyntax, 2}, {"{x\u00e9}", api.ErrSyntax, 2}, {"{x\v}", api.ErrSyntax, 2}, {"{x y}", api.ErrSyntax, 3}, {"{x,,number}", api.ErrSyntax, 3},
		{"{x}}", api.ErrSyntax, 3}, {"'{'}", api.ErrSyntax, 3}, {"''}", api.ErrSyntax, 2}, {"''{", api.ErrSyntax, 3}, {"'{''a'{", api.ErrSyntax, 7}, {"a'b}", api.ErrSyntax, 3},
		{"{x,n", api.ErrSyntax, 3}, {"{x,number", api.ErrSyntax, 9}, {"{x,number ", api.ErrSyntax, 10}, {"{x,numbers}", api.ErrSyntax, 3}, {"{x,number2}", api.ErrSyntax, 3}, {"{x,NUMBER}", api.ErrSyntax, 3}, {"{x,number-}", api.ErrSyntax, 9}, {"{x,number,y}", api.ErrSyntax, 9},
		{"{x,select}", api.ErrSyntax, 9}, {"{x,select,}", api.ErrSyntax, 10}, {"{x,select,", api.ErrSyntax, 10}, {"{x,select,a", api.ErrSyntax, 11}, {"{x,select,a}", api.ErrSyntax, 11}, {"{x,select,=0{}}", api.ErrSyntax, 10}, {"{x,select,1{}}", api.ErrSyntax, 10}, {"{x,select,a b{}}", api.ErrSyntax, 12}, {"{x,select,offset:1 other{}}", api.ErrSyntax, 16}, {"{x,select other{}}", api.ErrSyntax, 10},
		{"{x,selectordinal", api.ErrSyntax, 16}, {"{x,selectordina", api.ErrSyntax, 3}, {"{x,plural,offset", api.ErrSyntax, 10}, {"{x,plural,offset:", api.ErrSyntax, 17}, {"{x,plural,offset: ", api.ErrSyntax, 18}, {"{x,plural,offset :1 other{}}", api.ErrSyntax, 10}, {"{x,plural,offset{}}", api.ErrSyntax, 10}, {"{x,plural,off set:1 other{}}", api.ErrSyntax, 10},
		{"{x,plural,offset:1", api.ErrSyntax, 18}, {"{x,plural,offset:1 }", api.ErrSyntax, 19}, {"{x,plural,offset:1,other{}}", api.ErrSyntax, 18}, {"{x,plural,offset:-1 other{}}", api.ErrSyntax, 17}, {"{x,plural,offset:1.5 other{}}", api.ErrSyntax, 18}, {"{x,plural,offset:00 other{}}", api.ErrSyntax, 18}, {"{x,plural,offset:1234567890 other{}}", api.ErrSyntax, 26}, {"{x,plural,offset:1 offset:1 other{}}", api.ErrSyntax, 19}, {"{x,plural,other{}offset:1}", api.ErrSyntax, 17},
		{"{x,plural,=", api.ErrSyntax, 11}, {"{x,plural,=1", api.ErrSyntax, 12}, {"{x,plural,= 1{}other{}}", api.ErrSyntax, 11}, {"{x,plural,=a{}other{}}", api.ErrSyntax, 11}, {"{x,plural,=-1{}other{}}", api.ErrSyntax, 11}, {"{x,plural,=1.0{}other{}}", api.ErrSyntax, 12}, {"{x,plural,=1234567890{}other{}}", api.ErrSyntax, 20}, {"{x,plural,=\u0661{}other{}}", api.ErrSyntax, 11}, {"{x,plural,1{}other{}}", api.ErrSyntax, 10},
		{"{x,plural,Other{}}", api.ErrSyntax, 10}, {"{x,plural,othe", api.ErrSyntax, 10}, {"{x,plural,other", api.ErrSyntax, 15}, {"{x,plural,others{}}", api.ErrSyntax, 10}, {"{x,plural,abcdefghijklmnopqrst{}}", api.ErrSyntax, 10}, {"{x,plural,other{}one", api.ErrSyntax, 20}, {"{x,plural,other{}", api.ErrSyntax, 17}, {"{x,plural,other{", api.ErrSyntax, 16}, {"{x,plural,other{#}#}", api.ErrSyntax, 18}, {"{x,plural,other{'#}}", api.ErrSyntax, 20},
		{"{abcdefghijklmnopq}", api.ErrSyntax, 17}, {"{abcdefghijklmnopq", api.ErrSyntax, 17}, {"{abcdefghijklmnop", api.ErrSyntax, 17}, {"{x,select,abcdefghijklmnopqr{}}", api.ErrSyntax, 26},

		{deep(6), api.ErrDepth, 95}, {deep(9), api.ErrDepth, 95}, {deep(5)[:80] + "{a,plural,=1{", api.ErrDepth, 92}, {"}" + deep(6), api.ErrSyntax, 0}, {deep(6) + "}", api.ErrDepth, 95}, {deep(5) + "}", api.ErrSyntax, 90}, {deep(5)[:80] + "{a,select,}", api.ErrSyntax, 90},
		{"{x,select,a{}a{}}" + deep(6), api.ErrDepth, 112}, {"{x,number}{x,select,a{}a{}}}", api.ErrSyntax, 27},

		{"{x,plural,=1{}one{}}", api.ErrOther, 19}, {"{x,select,Other{} }", api.ErrOther, 18}, {"{x,select,a{{y,select,b{}}}}", api.ErrOther, 25}, {"{x,select,a{}}{x,number}", api.ErrOther, 13}, {"{x,selectordinal,=0{}}", api.ErrOther, 21},
		{"{x,plural,other{}=0{} =0{}}", api.ErrTwice, 22}, {"{x,plural,offset:1 other{}other{}}", api.ErrTwice, 26}, {"{x,select,a{{y,select,other{}b{}b{}}}a{}}", api.ErrTwice, 32}, {"{x,select,a{}a{{x,number}}}", api.ErrTwice, 13}, {"\u00e9{x,select,other{\u00e9}other{}}", api.ErrTwice, 19},
		{"{x,select,other{}}{x,plural,a{}}", api.ErrSyntax, 28}, {"{x,select,other{}}{x,selectordinal,one{}}", api.ErrKind, 18}, {"{x}{x,plural,other{{x,select,other{}}}}", api.ErrKind, 19}, {"{x}{x,select,other{}}{x}{x,number}{x,plural,other{}}", api.ErrKind, 24}, {"{x,plural,other{{y,select,other{}}}}{y,number}", api.ErrKind, 36},
	}
}

// isFault: err is a fault, of that kind and place alone.
func isFault(err error, e api.Errno, at int) bool {
	var f *api.Fault
	return errors.As(err, &f) && f.Err == e && f.At == at && isJust(err, e)
}

func TestFaults(t *testing.T) {
	for _, c := range faults() {
		s, err := phrases.Canon(c.p)
		if s != "" || !isFault(err, c.e, c.at) {
			t.Errorf("P8, P9, P1: Canon(%.100q) = %q, %v, want %d at %d and nothing beside it", c.p, s, err, c.e, c.at)
		}
		if s, e, at := plain.Canon(c.p); s != "" || e != c.e || at != c.at {
			t.Errorf("P8, P9, P1: plain.Canon(%.100q) = %q, %d at %d, want %d at %d", c.p, s, e, at, c.e, c.at)
		}
		called := 0
		err = phrases.Each(c.p, func(string, int) bool { called++; return true })
		if called != 0 || !isFault(err, c.e, c.at) {
			t.Errorf("P11: Each(%.100q): %v, want %d at %d, and yield was called %d times", c.p, err, c.e, c.at, called)
		}
		if err := phrases.Each(c.p, nil); !isFault(err, c.e, c.at) {
			t.Errorf("P11: Each(%.100q) with nil: %v, want %d at %d", c.p, err, c.e, c.at)
		}
	}
}

func TestCanon(t *testing.T) {
	for p, want := range map[string]string{
		"{ n ,plural, =1{a''} other{'#'{n}''{n}}}": "{n, plural, =1 {a''} other {'#'{n}''{n}}}",
		"{n, plural, other {a '{#''}' b}}":         "{n, plural, other {a '{#''}' b}}",
		"it's '{'":                                 "it''s '{'",
		"'{'''":                                    "'{'''",

		"": "", "a # b": "a # b", " \t\n\r\x00\ufffd\u00e9": " \t\n\r\x00\ufffd\u00e9",
		"'": "''", "'''": "''''", "'a'": "''a''", "'{a}'": "'{'a'}'", "'{": "'{'", "'}{''": "'}{'''", "''''''": "''''''", "'''{'''": "'''{'''", "'#": "''#",
		"{\n\tx\r }": "{x}", "{x ,\nnumber\t}": "{x, number}", "{_}{A9}": "{_}{A9}", "{abcdefghijklmnop}": "{abcdefghijklmnop}",
		"{n,plural,offset:0other{}}":                                    "{n, plural, other {}}",
		"{n,plural,offset:\n 999999999=999999999{}other{}}":             "{n, plural, offset:999999999 =999999999 {} other {}}",
		"{n,selectordinal,other{#}many{##}few{'#'}two{''#}one{}zero{}}": "{n, selectordinal, other {#} many {##} few {'#'} two {''#} one {} zero {}}",
		"{s,select,other{'#}}":                                          "{s, select, other {''#}}",
		"{n,plural,other{'{#''}#' '# }'}}":                              "{n, plural, other {'{#''}#' '#' '}'}}",
		"{n\n,\nplural\n,\nother\n{\n}\n}":                              "{n, plural, other {\n}}",
		"{s,select,one{'# '{'}other{# a'}'}}":                           "{s, select, one {''# '{'} other {# a'}'}}",
		"{n,plural,other{{s,select,other{'# # '''-}}# '#'}}":            "{n, plural, other {{s, select, other {''# # ''''-}}# '#'}}",
		"{n,plural,other{'#'{s,select,other{#}}'#'}}":                   "{n, plural, other {'#'{s, select, other {#}}'#'}}",
		deep(5): strings.Repeat("{a, select, other {", 5) + strings.Repeat("}}", 5),
	} {
		got, err := phrases.Canon(p)
		if got != want || err != nil {
			t.Errorf("P10: Canon(%q) = %q, %v, want %q", p, got, err, want)
		}
		if again, err := phrases.Canon(want); again != want || err != nil {
			t.Errorf("P10: Canon(%q) = %q, %v, want the same", want, again, err)
		}
		if got, e, at := plain.Canon(p); got != want || e != api.OK || at != 0 {
			t.Errorf("P10: plain.Canon(%q) = %q, %d at %d, want %q", p, got, e, at, want)
		}
	}
}

// TestLongest: a pattern may have 1,000 bytes, and its one form more than that.
func TestLongest(t *testing.T) {
	for p, want := range map[string]string{
		strings.Repeat("a", 1000):         strings.Repeat("a", 1000),
		strings.Repeat("\u00e9", 500):     strings.Repeat("\u00e9", 500),
		strings.Repeat("a'", 500):         strings.Repeat("a''", 500),
		strings.Repeat("{a}", 333):        strings.Repeat("{a}", 333),
		"'" + strings.Repeat("{", 999):    "'" + strings.Repeat("{", 999) + "'",
		strings.Repeat("{n,number}", 100): strings.Repeat("{n, number}", 100),
	} {
		if got, err := phrases.Canon(p); got != want || err != nil {
			t.Errorf("P8, P10: Canon(%.20q..) of %d bytes: %d bytes, %v, want %d", p, len(p), len(got), err, len(want))
		}
	}
}
