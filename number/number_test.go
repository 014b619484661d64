package number

import (
	"errors"
	"regexp"
	"strings"
	"testing"

	"phrases/api"
)

func TestParts(t *testing.T) {
	nines := strings.Repeat("9", api.MaxDigits)
	for _, c := range []struct {
		s    string
		want Number
	}{
		{"0", Number{false, "0", ""}},
		{"7", Number{false, "7", ""}},
		{"-7", Number{true, "7", ""}},
		{"10", Number{false, "10", ""}},
		{"1.0", Number{false, "1", "0"}},
		{"1.00", Number{false, "1", "00"}},
		{"0.00", Number{false, "0", "00"}},
		{"-0.01", Number{true, "0", "01"}},
		{"-10.0", Number{true, "10", "0"}},
		{"-1234567.50", Number{true, "1234567", "50"}},
		{nines, Number{false, nines, ""}},
		{"-" + nines, Number{true, nines, ""}},
		{"-" + nines[1:] + ".9", Number{true, nines[1:], "9"}},
		{"9." + nines[1:], Number{false, "9", nines[1:]}},
		{"0." + strings.Repeat("0", api.MaxDigits-1), Number{false, "0", strings.Repeat("0", api.MaxDigits-1)}},
	} {
		if got, err := Parse(c.s); got != c.want || err != nil {
			t.Errorf("P2: Parse(%q) = %+v, %v, want %+v", c.s, got, err, c.want)
		}
	}
}

func TestNoNumbers(t *testing.T) {
	for _, s := range []string{
		"", "-", ".", "-.", "1.", "-1.", ".5", "-.5", "1..2", "1.2.3", "1.-2", "1-", "--1", "+1", "\u22121",
		"00", "01", "-01", "00.5", "-00", "-0", "-0.0", "-0.000",
		" 1", "1 ", "1 0", "1\n", "1,000", "1_0", "1e3", "0x1", "1/", "1:", "NaN", "Inf", "\u0661", "1\u0661", "1.\u0661", "\uff11", "\xff", "1\xff", "1.\xff", "1\x00", "\ufeff1",
		strings.Repeat("9", 31), "-" + strings.Repeat("9", 31), strings.Repeat("9", 30) + ".9", "0." + strings.Repeat("1", 30), "0." + strings.Repeat("0", 30),
		strings.Repeat("1", 100000), strings.Repeat("-", 100000), strings.Repeat(".", 100000), strings.Repeat("1", 256+30), "1." + strings.Repeat("1", 65536+1),
	} {
		if got, err := Parse(s); got != (Number{}) || !errors.Is(err, api.ErrNumber) {
			t.Errorf("P2: Parse(%.40q) = %+v, %v, want ErrNumber and nothing beside it", s, got, err)
		}
	}
}

// TestAllShort holds all short texts of a few signs against the shape that P2 tells, said in another way.
func TestAllShort(t *testing.T) {
	shape := regexp.MustCompile(`^-?(0|[1-9][0-9]*)(\.[0-9]+)?$`)
	nothing := regexp.MustCompile(`^-[0.]*$`)
	texts := []string{""}
	for range 6 {
		for _, s := range texts {
			want := shape.MatchString(s) && !nothing.MatchString(s)
			n, err := Parse(s)
			if (err == nil) != want {
				t.Fatalf("P2: Parse(%q): %v, want a number: %v", s, err, want)
			}
			if err == nil && join(n) != s {
				t.Fatalf("P2: Parse(%q) = %+v", s, n)
			}
		}
		texts = longer(texts)
	}
}

// longer sets each of some signs behind each text.
func longer(texts []string) []string {
	var all []string
	for _, s := range texts {
		for _, c := range "-.0159 +" {
			all = append(all, s+string(c))
		}
	}
	return all
}

// join is the text of a number's parts.
func join(n Number) string {
	s := n.Whole
	if n.Minus {
		s = "-" + s
	}
	if n.Behind != "" {
		s += "." + n.Behind
	}
	return s
}
