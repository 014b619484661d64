package number

import (
	"fmt"
	"math/big"
	"math/rand"
	"strings"
	"testing"
)

func TestLess(t *testing.T) {
	nines := strings.Repeat("9", 30)
	for _, c := range []struct {
		s      string
		offset uint32
		want   Number
	}{
		{"0", 0, Number{false, "0", ""}}, {"0.00", 0, Number{false, "0", "00"}}, {"-7.50", 0, Number{true, "7", "50"}}, {nines, 0, Number{false, nines, ""}},
		{"2", 1, Number{false, "1", ""}}, {"2.0", 1, Number{false, "1", "0"}}, {"10", 1, Number{false, "9", ""}}, {"1000.5", 1, Number{false, "999", "5"}},
		{"1", 1, Number{false, "0", ""}}, {"1.00", 1, Number{false, "0", "00"}}, {"1.05", 1, Number{false, "0", "05"}},
		{"0", 1, Number{true, "1", ""}}, {"0.5", 1, Number{true, "0", "5"}}, {"0.95", 1, Number{true, "0", "05"}}, {"0.0", 3, Number{true, "3", "0"}},
		{"-1", 1, Number{true, "2", ""}}, {"-9.9", 1, Number{true, "10", "9"}}, {"-0.001", 999999999, Number{true, "999999999", "001"}},
		{"1" + strings.Repeat("0", 29), 1, Number{false, nines[1:], ""}},
		{"-" + nines, 1, Number{true, "1" + strings.Repeat("0", 30), ""}},
		{"-" + nines, 999999999, Number{true, "1" + strings.Repeat("0", 21) + "999999998", ""}},
		{"0." + strings.Repeat("0", 28) + "1", 1, Number{true, "0", nines[1:]}},
		{"999999999", 999999999, Number{false, "0", ""}}, {"999999998.9", 999999999, Number{true, "0", "1"}},
	} {
		n, err := Parse(c.s)
		if err != nil {
			t.Fatal(c.s, err)
		}
		if got := n.Less(c.offset); got != c.want {
			t.Errorf("P14: %s less %d is %+v, want %+v", c.s, c.offset, got, c.want)
		}
	}
}

func TestIs(t *testing.T) {
	for _, c := range []struct {
		s    string
		v    uint32
		want bool
	}{
		{"0", 0, true}, {"0.00", 0, true}, {"1", 1, true}, {"1.0", 1, true}, {"1.000", 1, true}, {"999999999", 999999999, true}, {"999999999.0", 999999999, true}, {"10", 10, true},
		{"0.01", 0, false}, {"1", 0, false}, {"0", 1, false}, {"-1", 1, false}, {"-1.0", 1, false}, {"1.5", 1, false}, {"1.01", 1, false}, {"10", 1, false}, {"1", 10, false}, {"1.0", 10, false}, {"9999999990", 999999999, false},
		{"4294967297", 1, false}, {"18446744073709551617", 1, false}, {"1" + strings.Repeat("0", 29), 1, false},
	} {
		n, err := Parse(c.s)
		if err != nil {
			t.Fatal(c.s, err)
		}
		if got := n.Is(c.v); got != c.want {
			t.Errorf("P14: is %s equal to %d: %v", c.s, c.v, got)
		}
	}
}

// chanced is the text of a number by chance.
func chanced(r *rand.Rand) string {
	for {
		whole, behind := r.Intn(30)+1, r.Intn(10)
		s := strings.TrimLeft(digits(r, whole), "0")
		if s == "" {
			s = "0"
		}
		if behind > 0 {
			s += "." + digits(r, behind)
		}
		if r.Intn(2) == 0 {
			s = "-" + s
		}
		if _, err := Parse(s); err == nil {
			return s
		}
	}
}

// digits are so many, often noughts and nines, where borrowing and carrying happens.
func digits(r *rand.Rand, n int) string {
	s := ""
	for range n {
		s += "0123456789000999"[r.Intn(16):][:1]
	}
	return s
}

// TestLessAsFractions holds numbers less offsets, and what they are equal to, against the same worked out with fractions.
func TestLessAsFractions(t *testing.T) {
	r := rand.New(rand.NewSource(1))
	for range 50000 {
		s := chanced(r)
		n, _ := Parse(s)
		offset := []uint32{0, 1, 2, 10, 999999999, uint32(r.Intn(1000000000))}[r.Intn(6)]
		if r.Intn(4) == 0 {
			fmt.Sscan(n.Whole[:min(9, len(n.Whole))], &offset)
		}
		given, _ := new(big.Rat).SetString(s)
		less := new(big.Rat).Sub(given, new(big.Rat).SetInt64(int64(offset)))
		if got, want := join(n.Less(offset)), less.FloatString(len(n.Behind)); got != want {
			t.Fatalf("P14: %s less %d is %s, want %s", s, offset, got, want)
		}
		if got, want := n.Is(offset), less.Sign() == 0; got != want {
			t.Fatalf("P14: is %s equal to %d: %v", s, offset, got)
		}
	}
}
