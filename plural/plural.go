// Package plural makes functions of plural rules (P5) and tells by them of which category a number is (P6, P7).
package plural

import (
	"slices"
	"strings"

	"phrases/api"
	"phrases/number"
)

// Other is the category of the numbers of which no rule holds.
const Other = "other"

// Rules is a list of rules that was found right. It holds nothing of the list that was handed in but texts, which no one can write into.
type Rules []rule

type rule struct {
	name  string
	holds condition
}

// New makes functions of rules: ErrRule, if they are none.
func New(list []api.Rule) (Rules, error) {
	var rules Rules
	seen := make(map[string]struct{})
	for _, r := range list {
		_, twice := seen[r.Name]
		if twice || !mayHaveRule(r.Name) {
			return nil, api.ErrRule
		}
		seen[r.Name] = struct{}{}
		holds, err := conditionOf(r.When)
		if err != nil {
			return nil, err
		}
		rules = append(rules, rule{name: r.Name, holds: holds})
	}
	return rules, nil
}

// Categories are all six, in the order in which programs have them.
func Categories() []string { return []string{"zero", "one", "two", "few", "many", Other} }

// IsCategory tells of all six words.
func IsCategory(word string) bool { return slices.Contains(Categories(), word) }

// mayHaveRule: other has no rule, being what is left.
func mayHaveRule(word string) bool { return word != Other && IsCategory(word) }

// conditionOf makes a function of what a rule has for its When.
func conditionOf(when string) (condition, error) {
	// What is behind the `@` is passed over, but its bytes count.
	if len(when) > api.MaxRule {
		return nil, api.ErrRule
	}
	text, _, _ := strings.Cut(when, "@")
	parts, err := split(text)
	if err != nil {
		return nil, err
	}
	return parse(parts)
}

// Category tells of which category a number is: that of the first rule that holds.
func (r Rules) Category(n number.Number) string {
	for _, rule := range r {
		if rule.holds(n) {
			return rule.name
		}
	}
	return Other
}
