package locale

import (
	"testing"

	"phrases/api"
	"phrases/number"
)

// TestRules: a locale tells categories by two lists, which are not taken for each other and not kept.
func TestRules(t *testing.T) {
	cardinal := []api.Rule{{Name: "one", When: "n = 1"}, {Name: "few", When: "n = 2..4"}}
	ordinal := []api.Rule{{Name: "two", When: "n = 1..2"}}
	l, err := New(but(func(l *api.Locale) { l.Cardinal, l.Ordinal = cardinal, ordinal }))
	if err != nil {
		t.Fatal(err)
	}
	for range 2 {
		for s, want := range map[string][2]string{"1": {"one", "two"}, "2": {"few", "two"}, "3": {"few", "other"}, "5": {"other", "other"}, "-1": {"one", "two"}} {
			n, err := number.Parse(s)
			if err != nil {
				t.Fatal(err)
			}
			if got := [2]string{l.Cardinal(n), l.Ordinal(n)}; got != want {
				t.Errorf("P14: the categories of %s are %v, want %v", s, got, want)
			}
		}
		cardinal[0], cardinal[1], ordinal[0] = api.Rule{Name: "zero", When: "n = 1"}, api.Rule{}, api.Rule{Name: "many", When: "n = 0..9"}
	}
	none, err := New(english)
	if n, _ := number.Parse("1"); err != nil || none.Cardinal(n) != "other" || none.Ordinal(n) != "other" {
		t.Errorf("P14: without rules: %q, %q, %v", none.Cardinal(n), none.Ordinal(n), err)
	}
}
