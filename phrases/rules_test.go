package phrases_test

import (
	"maps"
	"slices"
	"strings"
	"testing"

	"phrases/api"
	"phrases/phrases"
	"phrases/plain"
)

// slavic is rules in which the order counts for some numbers: 1 is many's, too.
func slavic() []api.Rule {
	return []api.Rule{
		{Name: "one", When: "v = 0 and i % 10 = 1 and i % 100 != 11 @integer 1, 21"},
		{Name: "few", When: "v = 0 and i % 10 = 2..4 and i % 100 != 12..14"},
		{Name: "many", When: "v = 0 or n is 2"},
		{Name: "zero", When: "n within 0..1"},
	}
}

func TestCategory(t *testing.T) {
	for s, want := range map[string]string{
		"1": "one", "-21": "one", "11": "many", "2": "few", "22": "few", "104": "few", "12": "many", "5": "many", "0": "many",
		"2.0": "many", "0.0": "zero", "0.5": "zero", "1.0": "zero", "1.5": "other", "-2.5": "other",
		strings.Repeat("9", 30): "many", strings.Repeat("9", 29) + "1": "one",
	} {
		if got, err := phrases.Category(slavic(), s); got != want || err != nil {
			t.Errorf("P7: Category of %s: %q, %v, want %q", s, got, err, want)
		}
		if got, e := plain.Category(slavic(), s); got != want || e != api.OK {
			t.Errorf("P7: plain.Category of %s: %q, %d, want %q", s, got, e, want)
		}
	}
	for _, none := range [][]api.Rule{nil, {}} {
		if got, err := phrases.Category(none, "1"); got != "other" || err != nil {
			t.Errorf("P7: Category without rules: %q, %v", got, err)
		}
	}
}

// TestFirstRule: where several rules hold, the first of the list counts, whatever its name.
func TestFirstRule(t *testing.T) {
	names := []string{"zero", "one", "two", "few", "many"}
	for k := range names {
		var rules []api.Rule
		for i := range names {
			rules = append(rules, api.Rule{Name: names[(k+i)%len(names)], When: "n = 0..9"})
		}
		if got, err := phrases.Category(rules, "7"); got != names[k] || err != nil {
			t.Errorf("P7: %v: %q, %v, want %q", rules, got, err, names[k])
		}
		rules[0].When = "n = 1"
		if got, err := phrases.Category(rules, "7"); got != names[(k+1)%len(names)] || err != nil {
			t.Errorf("P7: %v: %q, %v", rules, got, err)
		}
	}
}

// wrongRules are lists of rules that are none.
func wrongRules() [][]api.Rule {
	return [][]api.Rule{
		{{}}, {{Name: "one"}}, {{When: "n = 1"}}, {{Name: "other", When: "n = 1"}}, {{Name: "three", When: "n = 1"}},
		{{Name: "one", When: "n = 1"}, {Name: "one", When: "n = 1"}},
		{{Name: "one", When: "n = 1"}, {Name: "two", When: "n = 2"}, {Name: "one", When: "n = 3"}},
		{{Name: "one", When: "n = 1"}, {Name: "two", When: "n = 2..1"}},
		{{Name: "one", When: "n = 01"}}, {{Name: "one", When: "n mod 0 = 1"}}, {{Name: "one", When: "n = 1 \xff"}},
		{{Name: "one", When: "n = 1" + strings.Repeat(" ", 196)}},
	}
}

func TestCategoryErrors(t *testing.T) {
	for _, rules := range wrongRules() {
		for _, s := range []string{"1", "x", ""} {
			if got, err := phrases.Category(rules, s); got != "" || !isJust(err, api.ErrRule) {
				t.Errorf("P7, P1: Category(%.200q, %q) = %q, %v, want ErrRule and nothing beside it", rules, s, got, err)
			}
			if got, err := phrases.Choose(rules, s, map[string]int{"one": 1, "other": 2}); got != 0 || !isJust(err, api.ErrRule) {
				t.Errorf("P7, P1: Choose(%.200q, %q) = %d, %v, want ErrRule and nothing beside it", rules, s, got, err)
			}
		}
	}
	for _, s := range []string{"", "x", "-0", "01", "1.", "1e3", "\xff", strings.Repeat("1", 31)} {
		for _, rules := range [][]api.Rule{nil, slavic()} {
			if got, err := phrases.Category(rules, s); got != "" || !isJust(err, api.ErrNumber) {
				t.Errorf("P7, P1: Category of %q = %q, %v, want ErrNumber and nothing beside it", s, got, err)
			}
			if got, err := phrases.Choose(rules, s, map[string]int{"one": 1, "other": 2}); got != 0 || !isJust(err, api.ErrNumber) {
				t.Errorf("P7, P1: Choose of %q = %d, %v, want ErrNumber and nothing beside it", s, got, err)
			}
			if got, err := phrases.Choose[string](rules, s, nil); got != "" || !isJust(err, api.ErrNumber) {
				t.Errorf("P7, P1: Choose of %q from nothing = %q, %v, want ErrNumber ahead of ErrNone", s, got, err)
			}
		}
	}
}

func TestChoose(t *testing.T) {
	for _, c := range []struct {
		s    string
		of   map[string]int
		want int
		err  api.Errno
	}{
		{"1", map[string]int{"one": 7, "few": 8, "other": 9}, 7, api.OK},
		{"2", map[string]int{"one": 7, "few": 8, "other": 9}, 8, api.OK},
		{"5", map[string]int{"one": 7, "few": 8, "other": 9}, 9, api.OK},
		{"1.5", map[string]int{"one": 7, "few": 8, "other": 9}, 9, api.OK},
		{"1", map[string]int{"one": 0, "other": 9}, 0, api.OK},
		{"5", map[string]int{"other": 0}, 0, api.OK},
		{"5", map[string]int{"one": 7}, 0, api.ErrNone},
		{"1.5", map[string]int{"one": 7, "few": 8, "many": 9}, 0, api.ErrNone},
		{"1", map[string]int{"One": 7, "Other": 8, "": 9}, 0, api.ErrNone},
		{"1", map[string]int{}, 0, api.ErrNone},
		{"1", nil, 0, api.ErrNone},
	} {
		got, err := phrases.Choose(slavic(), c.s, c.of)
		if got != c.want || c.err == api.OK && err != nil || c.err != api.OK && !isJust(err, c.err) {
			t.Errorf("P7: Choose of %s from %v: %d, %v, want %d, %v", c.s, c.of, got, err, c.want, c.err)
		}
	}
}

// TestChooseOfTypes: the types of what is chosen are the caller's, and so is their zero.
func TestChooseOfTypes(t *testing.T) {
	type row struct {
		text string
		list [2]int
	}
	if v, err := phrases.Choose(slavic(), "2", map[string]row{"few": {"a", [2]int{1, 2}}}); v != (row{"a", [2]int{1, 2}}) || err != nil {
		t.Errorf("P7: Choose of structs: %v, %v", v, err)
	}
	if v, err := phrases.Choose(slavic(), "1", map[string]row{"few": {"a", [2]int{1, 2}}}); v != (row{}) || !isJust(err, api.ErrNone) {
		t.Errorf("P7, P1: Choose of structs: %v, %v, want ErrNone and the zero", v, err)
	}
	if v, err := phrases.Choose(slavic(), "2", map[string]func() int{"other": func() int { return 5 }}); v == nil || v() != 5 || err != nil {
		t.Errorf("P7: Choose of functions: %v", err)
	}
	if v, err := phrases.Choose(slavic(), "2", map[string]any{"few": nil, "other": 1}); v != nil || err != nil {
		t.Errorf("P7: Choose of nil: %v, %v", v, err)
	}
	if v, err := phrases.Choose(slavic(), "2", map[string]*int{}); v != nil || !isJust(err, api.ErrNone) {
		t.Errorf("P7, P1: Choose of pointers: %v, %v", v, err)
	}
	if k, e := plain.Choose(slavic(), "2", []string{"one", "few"}); k != 2 || e != api.OK {
		t.Errorf("P7: plain.Choose: %d, %d", k, e)
	}
	if name, k, e := plain.Both(slavic(), "7.5", []string{"one", "other"}); name != "other" || k != 1 || e != api.OK {
		t.Errorf("P7: plain.Both: %q, %d, %d", name, k, e)
	}
	if name, k, e := plain.Both(slavic(), "7.5", []string{"one"}); name != "" || k != 0 || e != api.ErrNone {
		t.Errorf("P7: plain.Both: %q, %d, %d", name, k, e)
	}
}

// TestLocaleOfRules: P3: a locale whose rules are none is none.
func TestLocaleOfRules(t *testing.T) {
	for _, rules := range wrongRules() {
		cardinal, ordinal := english(), english()
		cardinal.Cardinal, ordinal.Ordinal = rules, rules
		for _, l := range []api.Locale{cardinal, ordinal} {
			for _, s := range []string{"1", "x"} {
				if got, err := phrases.Number(s, l); got != "" || !isJust(err, api.ErrLocale) {
					t.Errorf("P3, P1: Number(%q) with the rules %.200q = %q, %v, want ErrLocale and nothing beside it", s, rules, got, err)
				}
			}
		}
	}
	l := english()
	l.Cardinal, l.Ordinal = slavic(), slavic()
	if got, err := phrases.Number("1000", l); got != "1,000" || err != nil {
		t.Errorf("P3: Number(1000) = %q, %v", got, err)
	}
}

// TestRulesStay: P1: lists and maps that are handed in stay as they were, and are asked anew by each call.
func TestRulesStay(t *testing.T) {
	rules, of := slavic(), map[string]int{"one": 7, "other": 9}
	for _, s := range []string{"1", "2.0", "1.5", "x"} {
		phrases.Category(rules, s)
		phrases.Choose(rules, s, of)
		phrases.Choose(rules[:1:1], s, of)
		if !slices.Equal(rules, slavic()) || !maps.Equal(of, map[string]int{"one": 7, "other": 9}) {
			t.Errorf("P1: what was handed in changed at %q: %v, %v", s, rules, of)
		}
	}
	before, _ := phrases.Category(rules, "1")
	rules[0] = api.Rule{Name: "two", When: "n = 1"}
	after, _ := phrases.Category(rules, "1")
	if before != "one" || after != "two" {
		t.Errorf("P1: %q, then %q: the rules of an earlier call were kept", before, after)
	}
}
