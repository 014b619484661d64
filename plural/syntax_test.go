package plural

import (
	"errors"
	"regexp"
	"strconv"
	"strings"
	"testing"

	"phrases/api"
)

// one is a list of one rule.
func one(when string) []api.Rule { return []api.Rule{{Name: "one", When: when}} }

// checkRules: are rules taken as right, or refused with ErrRule and nothing beside it?
func checkRules(t *testing.T, list []api.Rule, right bool) {
	t.Helper()
	got, err := New(list)
	switch {
	case right && (err != nil || len(got) != len(list)):
		t.Errorf("P5: %.300q: %v", list, err)
	case !right && (got != nil || !errors.Is(err, api.ErrRule)):
		t.Errorf("P5: %.300q: %v, want ErrRule and nothing beside it", list, err)
	}
}

func TestRightRules(t *testing.T) {
	for _, when := range []string{
		"n = 1", "n=1", "  n  =  1  ", "n != 1", "n!=1", "n is 1", "n is not 1", "n is1", "n is not1",
		"n in 1", "n not in 1", "n within 1", "n not within 1", "n in1", "n within1..2",
		"n = 1,2", "n = 1 , 2", "n = 1..2", "n = 1 .. 2", "n = 1,3..4,6 ..7", "n = 3,2,1,1..2,1..1", "n not in 1,2..3", "n within 1..2,4",
		"n mod 10 = 1", "n % 10 = 1", "n%10=1", "n mod10=1", "n mod 10in 1", "n mod 10is not 1", "n mod 1 not in 1",
		"i = 0", "v = 0", "w = 0", "f = 0", "t = 0",
		"n = 1 and v = 0", "n = 1 or v = 0", "n = 1and v = 0or w = 1", "n is 1 or n is 2 and n is 3 or n is 4",
		"n = 0", "n = 0..0", "n = 9", "n = 999999999", "n = 0..999999999", "n mod 999999999 = 0", "n = 100000000..100000000",
		"n = 1@", "n = 1 @integer 1, 21, 31", "n = 1 @ n = 2 @ n", "n = 1@\xff\x00\t", "n = 1 @@",
	} {
		checkRules(t, one(when), true)
	}
}

func TestWrongRules(t *testing.T) {
	for _, when := range []string{
		"", " ", "@", "@n = 1", " @ n = 1", "n", "n @ = 1", "n = @ 1", "=", "n =", "= 1", "n 1", "1 = n", "1", "n = n", "n = one",
		"N = 1", "x = 1", "e = 1", "nn = 1", "ni = 1", "n i = 1", "and = 1", "mod = 1",
		"n == 1", "n = = 1", "n ! = 1", "n ! 1", "n =! 1", "n < 1", "n = 1;", "n = (1)", "n = 1.", "n = 1.2", "n = 1...2", "n = 1 . . 2", "n = 1..2..3", "n = ..1", "n = 1..", "n = 1 .. ,2", "n = 1,", "n = ,1", "n = 1,,2", "n = 1 2", "n = 1, and n = 2", "n = -1", "n = +1", "n = 1_0", "n = 0x1", "n = 1e3",
		"n is", "n is not", "n is 1,2", "n is 1..2", "n is not 1,2", "n is in 1", "n is not in 1", "n is = 1", "n is not not 1", "n isnot 1", "n not is 1", "n not 1", "n not = 1", "n not != 1", "n not not in 1", "n notin 1", "n in", "n in not 1", "n in = 1", "n within", "n withi 1", "n within in 1", "n in within 1", "nin 1", "nis 1", "n IS 1", "n in 1 within 2",
		"n mod = 1", "n % = 1", "n mod 10", "n % 10", "n mod 0 = 1", "n % 0 = 0", "n mod 00 = 1", "n mod 010 = 1", "n mod 1234567890 = 1", "n mod n = 1", "n mod 2 mod 2 = 1", "n % 2 % 2 = 1", "n mod 2,3 = 1", "n mod 2..3 = 1", "nmod 10 = 1", "n modulo 10 = 1", "mod 10 = 1", "n %% 10 = 1", "n mod % 10 = 1", "n not mod 10 = 1", "n is mod 10 1",
		"n = 00", "n = 01", "n = 1234567890", "n = 0000000001", "n = 1..01", "n = 1..1234567890", "n = 1234567890..1234567891", "n is 01", "n is 1234567890", "n = 99999999999999999999999",
		"n = 2..1", "n = 1..0", "n in 10..9", "n within 2..1", "n not within 2..1", "n = 1,5..4", "n = 999999999..999999998",
		"n = 1 and", "n = 1 or", "and n = 1", "or n = 1", "n = 1 and or n = 2", "n = 1 and and n = 2", "n = 1 n = 2", "n = 1 andn = 2", "n = 1 orn = 2", "n = 1 and n", "n = 1 or 2", "n = 1 xor n = 2", "n = 1 And n = 2", "n = 1 not and n = 2", "n = 1 and not n = 2",
		"\tn = 1", "n\t= 1", "n = 1\n", "n =\u00a01", "n = \u0661", "\u00f1 = 1", "n = 1\xff", "\xffn = 1", "n = 1 \x00", "n \u2260 1", "n = 1 \u00e1nd n = 2",
	} {
		checkRules(t, one(when), false)
	}
}

func TestLengthOfWhen(t *testing.T) {
	for _, begin := range []string{"n = 1", "n = 1 @", "n = 1 @ \xff"} {
		for n, right := range map[int]bool{199: true, 200: true, 201: false, 256 + 100: false, 100000: false} {
			checkRules(t, one(begin+strings.Repeat(" ", n-len(begin))), right)
		}
	}
	// These count as bytes, not as code points.
	checkRules(t, one("n = 1 @"+strings.Repeat("\u00e9", 96)), true)
	checkRules(t, one("n = 1 @"+strings.Repeat("\u00e9", 97)), false)
	long := "n = 1" + strings.Repeat(" or n = 2", 21)
	checkRules(t, one(long), len(long) <= 200)
	checkRules(t, one("n = 1"+strings.Repeat(",1", 97)), true)
}

func TestCategoriesOfRules(t *testing.T) {
	for name, right := range map[string]bool{"zero": true, "one": true, "two": true, "few": true, "many": true, "other": false, "": false, "One": false, "ONE": false, " one": false, "one ": false, "ones": false, "on": false, "three": false, "=1": false, "one\x00": false, "\xff": false} {
		checkRules(t, []api.Rule{{Name: name, When: "n = 1"}}, right)
	}
	var all []api.Rule
	for _, name := range []string{"many", "few", "two", "one", "zero"} {
		checkRules(t, all, true)
		for _, first := range all {
			checkRules(t, append(all[:len(all):len(all)], first), false)
			checkRules(t, append(all[:len(all):len(all)], api.Rule{Name: first.Name, When: "n = 77"}), false)
		}
		all = append(all, api.Rule{Name: name, When: "n = " + strconv.Itoa(len(all))})
	}
	checkRules(t, all, true)
	checkRules(t, []api.Rule{}, true)
	checkRules(t, nil, true)
	for at := range all {
		wrong := append([]api.Rule{}, all...)
		wrong[at].When = "n = "
		checkRules(t, wrong, false)
		wrong[at] = api.Rule{Name: "other", When: "n = 1"}
		checkRules(t, wrong, false)
	}
	checkRules(t, make([]api.Rule, 100000), false)
}

// grammar is P5's, written out: it needs no nesting. Where two words meet there must be a blank.
func grammar() *regexp.Regexp {
	const (
		v    = `(?:0|[1-9][0-9]{0,8})`
		item = v + `(?: *\.\. *` + v + `)?`
		list = item + `(?: *, *` + item + `)*`
		sign = ` *!?= *` + list
		word = `(?:is(?: +not)? *` + v + `|(?:not +)?(?:in|within) *` + list + `)`
		mod  = `(?: +mod| *%) *[1-9][0-9]{0,8}`
		rel  = `[nivwft](?:(?:` + mod + `)?` + sign + `| +` + word + `|` + mod + ` *` + word + `)`
		and  = rel + `(?: *and +` + rel + `)*`
	)
	return regexp.MustCompile(`^ *` + and + `(?: *or +` + and + `)* *$`)
}

var spans = regexp.MustCompile(`([0-9]+) *\.\. *([0-9]+)`)

// isRule holds a text against the grammar, and what the grammar cannot say: that a span does not go back.
func isRule(g *regexp.Regexp, when string) bool {
	text, _, _ := strings.Cut(when, "@")
	if len(when) > 200 || !g.MatchString(text) {
		return false
	}
	for _, m := range spans.FindAllStringSubmatch(text, -1) {
		first, _ := strconv.Atoi(m[1])
		last, _ := strconv.Atoi(m[2])
		if last < first {
			return false
		}
	}
	return true
}

// TestNeighbours changes right rules at every place, by every sign of the grammar and some that are none of it.
func TestNeighbours(t *testing.T) {
	g := grammar()
	for _, when := range []string{
		"n = 1", "i!=10..12", "n is not 3", "v not in 1..5, 7", "f within 0..2", "n % 10 = 2..4 and i % 100 != 12..14", "n mod 123456789 is 0", "t mod 7 not within 1,2", "n is 1or n in 3 and w not in 5 @ x",
	} {
		for at := range len(when) + 1 {
			for _, c := range strings.Split("n i v w f t a d o r m s h 0 1 2 9 = ! % , . @ -  \t \n N \u00e9 \xff 00 10 .. and or not in mod is", " ") {
				for _, gone := range []int{0, 1, 2} {
					if at+gone <= len(when) {
						changed := when[:at] + c + when[at+gone:]
						checkRules(t, one(changed), isRule(g, changed))
						changed = when[:at] + " " + c + " " + when[at+gone:]
						checkRules(t, one(changed), isRule(g, changed))
					}
				}
			}
		}
	}
}

// TestAllShort: all rows of a few parts behind an operand, with blanks and without.
func TestAllShort(t *testing.T) {
	g := grammar()
	parts := []string{"n", "mod", "%", "=", "!=", "is", "not", "in", "within", ",", "..", "and", "0", "2"}
	var grow func(spaced, tight string, left int)
	grow = func(spaced, tight string, left int) {
		checkRules(t, one(spaced), isRule(g, spaced))
		checkRules(t, one(tight), isRule(g, tight))
		if left > 0 {
			for _, part := range parts {
				grow(spaced+" "+part, tight+part, left-1)
			}
		}
	}
	grow("n", "n", 4)
	grow("n = 2", "n=2", 4)
	grow("n mod 2", "n%2", 4)
}
