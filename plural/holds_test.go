package plural

import (
	"fmt"
	"math/big"
	"strings"
	"testing"

	"phrases/number"
)

func parsed(t *testing.T, s string) number.Number {
	t.Helper()
	n, err := number.Parse(s)
	if err != nil {
		t.Fatal(s, err)
	}
	return n
}

// holds: does a rule hold of a number?
func holds(t *testing.T, when, s string) bool {
	t.Helper()
	rules, err := New(one(when))
	if err != nil {
		t.Fatal(when, err)
	}
	return rules.Category(parsed(t, s)) == "one"
}

func TestHolds(t *testing.T) {
	nines := strings.Repeat("9", 30)
	for _, c := range [][3]string{
		{"v = 0 and i % 10 = 2..4 and i % 100 != 12..14", "2 22 104 -3", "12 2.0 5 112"},
		{"n within 0..2 and n is not 2", "1.5 0 -1.5 1.999", "2.0 2.1 2"},
		{"n = 1", "1 1.0 1.00 -1", "0 2 1.5 10 1.0000001 1000000001 " + nines},
		{"i = 1", "1 1.0 1.9 -1.9", "0.1 11 2"},
		{"v = 2", "1.23 1.20 1.00 0.00", "1 1.2 1.234 2"},
		{"w = 1", "1.2 1.20 1.200", "1 1.0 1.23 1.02"},
		{"w = 2", "1.02 1.0200", "1.20 1.2"},
		{"f = 20", "1.20 0.020", "1.2 20 1.200"},
		{"f = 0", "7 7.0 7.00", "7.1 0.1"},
		{"t = 2", "1.2 1.20 1.02 1.0200", "2 1.22"},
		{"t = 0", "7 7.0 7.000", "7.1"},
		{"v = 29", "0." + strings.Repeat("0", 29), "0." + strings.Repeat("0", 28)},
		{"t = 1", "0." + strings.Repeat("0", 28) + "1", "0." + strings.Repeat("1", 29)},
		{"n = 999999999", "999999999 999999999.00 -999999999", "1000000000 9999999999 999999999.5 1999999999 " + nines},
		{"n in 0..999999999", "0 999999999 12345", "1000000000 1000000001 0.5 " + nines},
		{"n within 0..999999999", "0.5 999999998.9 999999999.0", "999999999.1 1000000000 " + nines},
		{"n mod 999999999 = 999999998", "999999998 1999999997", "999999999"},
		{"n mod 7 = 0", "0 7 7.0 -14 " + strings.Repeat("7", 30), "1 7.5 0.7"},
		{"n mod 10 = 9", "9 19.0 " + nines, "9.5 90"},
		{"n mod 2 within 0..1", "0.5 2.5 100.001 1 2", "1.5 3.5"},
		{"n mod 1 within 0", "5 5.0", "5.5"},
		{"n mod 1 within 0..1", "5 5.5", ""},
		{"n in 2..4", "2 3 4 4.0", "2.5 1.9 4.1 5"},
		{"n within 2..4", "2 2.5 4 4.0", "1.9 4.1 5"},
		{"n not in 2..4", "2.5 5", "2 4.0"},
		{"n not within 2..4", "1.9 4.5", "2.5 4"},
		{"n within 2,4", "2 4.0", "2.5 3 4.1"},
		{"n != 1,3..5", "2 0 3.5", "1 3 5.0"},
		{"n is not 1", "2 1.5", "1 1.0"},
		{"v = 0 or n = 2 and v = 1", "5 2.0", "2.00 5.0"},
		{"n = 2 and v = 1 or v = 0", "5 2.0", "2.00 5.0"},
		{"n = 1 @ or n = 2", "1", "2"},
	} {
		for _, s := range strings.Fields(c[1]) {
			if !holds(t, c[0], s) {
				t.Errorf("P6: %q does not hold of %s", c[0], s)
			}
		}
		for _, s := range strings.Fields(c[2]) {
			if holds(t, c[0], s) {
				t.Errorf("P6: %q holds of %s", c[0], s)
			}
		}
	}
}

// worth is what an operand is, worked out with fractions.
func worth(operand byte, s string) *big.Rat {
	whole, behind, _ := strings.Cut(strings.TrimPrefix(s, "-"), ".")
	short := behind
	for strings.HasSuffix(short, "0") {
		short = short[:len(short)-1]
	}
	text := map[byte]string{
		'n': whole + "." + behind + "0", 'i': whole,
		'v': fmt.Sprint(len(behind)), 'w': fmt.Sprint(len(short)),
		'f': "0" + behind, 't': "0" + short,
	}[operand]
	r, ok := new(big.Rat).SetString(text)
	if !ok {
		panic(text)
	}
	return r
}

// lessAll takes m away as often as can be.
func lessAll(r *big.Rat, m int64) *big.Rat {
	times := new(big.Int).Quo(r.Num(), new(big.Int).Mul(r.Denom(), big.NewInt(m)))
	return new(big.Rat).Sub(r, new(big.Rat).SetInt(times.Mul(times, big.NewInt(m))))
}

func isIn(r *big.Rat, items [][2]int64, within bool) bool {
	for _, it := range items {
		if r.Cmp(big.NewRat(it[0], 1)) >= 0 && r.Cmp(big.NewRat(it[1], 1)) <= 0 && (within || r.IsInt()) {
			return true
		}
	}
	return false
}

// TestRelations holds every shape of a relation against the same with fractions.
func TestRelations(t *testing.T) {
	numbers := strings.Fields("0 0.0 0.00 1 1.0 -1 1.5 1.50 0.5 -0.05 2 2.00 2.01 3 4 4.0 4.9 5 9 9.99 10 10.0 10.5 11 12 12.3 13 99 100 101.10 104 111 123.456 1000.0001 999999998 999999999 999999999.0 999999999.9 1000000000 1000000001 4294967296 4294967297 18446744073709551615 18446744073709551616 18446744073709551617 340282366920938463463374607432 999999999999999999999999999999 0.99999999999999999999999999999 0.00000000000000000000000000001 123456789012345.678901234567890 -7.0000000000000000000")
	lists := []struct {
		text  string
		items [][2]int64
	}{
		{"0", [][2]int64{{0, 0}}}, {"1", [][2]int64{{1, 1}}}, {"5", [][2]int64{{5, 5}}}, {"999999999", [][2]int64{{999999999, 999999999}}},
		{"0..2", [][2]int64{{0, 2}}}, {"2..4", [][2]int64{{2, 4}}}, {"1..1", [][2]int64{{1, 1}}}, {"0..999999999", [][2]int64{{0, 999999999}}},
		{"1,3", [][2]int64{{1, 1}, {3, 3}}}, {"0..1,5", [][2]int64{{0, 1}, {5, 5}}}, {"9,2..3,0..1", [][2]int64{{9, 9}, {2, 3}, {0, 1}}},
	}
	for _, operand := range "nivwft" {
		for _, m := range []int64{0, 1, 2, 3, 7, 10, 100, 1000000, 999999999} {
			for _, list := range lists {
				for _, how := range []string{"=", "!=", "in", "not in", "within", "not within", "is", "is not"} {
					if strings.HasPrefix(how, "is") && len(strings.Trim(list.text, "0123456789")) > 0 {
						continue
					}
					when := string(operand) + " " + how + " " + list.text
					if m > 0 {
						when = fmt.Sprintf("%c mod %d %s %s", operand, m, how, list.text)
					}
					rules, err := New(one(when))
					if err != nil {
						t.Fatal(when, err)
					}
					for _, s := range numbers {
						r := worth(byte(operand), s)
						if m > 0 {
							r = lessAll(r, m)
						}
						not := how == "!=" || strings.Contains(how, "not")
						want := isIn(r, list.items, strings.Contains(how, "within")) != not
						if got := rules.Category(parsed(t, s)) == "one"; got != want {
							t.Fatalf("P6: %q of %s: %v, want %v", when, s, got, want)
						}
					}
				}
			}
		}
	}
}

// TestAndOr: all rows of up to five relations, each of which holds or not whatever the number.
func TestAndOr(t *testing.T) {
	relations := []string{"n != 1", "n = 1"}
	var grow func(when string, left int)
	grow = func(when string, left int) {
		want := false
		for _, part := range strings.Split(when, " or ") {
			all := true
			for _, r := range strings.Split(part, " and ") {
				all = all && r == relations[1]
			}
			want = want || all
		}
		if got := holds(t, when, "1"); got != want {
			t.Errorf("P6: %q: %v, want %v", when, got, want)
		}
		if left > 0 {
			for _, r := range relations {
				grow(when+" and "+r, left-1)
				grow(when+" or "+r, left-1)
			}
		}
	}
	grow(relations[0], 4)
	grow(relations[1], 4)
}

// TestManyTimes: a rule's functions keep nothing of the numbers that they were asked of.
func TestManyTimes(t *testing.T) {
	rules, err := New(one("n mod 10 within 1..2 or f = 7"))
	if err != nil {
		t.Fatal(err)
	}
	for range 3 {
		for s, want := range map[string]string{"1": "one", "11.5": "one", "3": "other", "3.7": "one", "2.5": "other", "0.70": "other"} {
			if got := rules.Category(parsed(t, s)); got != want {
				t.Errorf("P6: %s: %q, want %q", s, got, want)
			}
		}
	}
}
