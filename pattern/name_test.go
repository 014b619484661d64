package pattern

import (
	"regexp"
	"strings"
	"testing"
)

func TestIsName(t *testing.T) {
	shape := regexp.MustCompile(`\A[a-zA-Z_][a-zA-Z0-9_]{0,15}\z`)
	var texts []string
	for c := range 256 {
		one := string([]byte{byte(c)})
		texts = append(texts, one, "a"+one, one+"a", "_9"+one+"Z", string(rune(c)), "a"+string(rune(c)))
	}
	for n := range 40 {
		texts = append(texts, strings.Repeat("a", n), strings.Repeat("_", n), strings.Repeat("9", n), "Z"+strings.Repeat("0", n), strings.Repeat("\u00e9", n))
	}
	texts = append(texts, "\u0430", "a\u0661", "a\u212a", "\ufeffa", "a b", " a", "a ", "a\n", strings.Repeat("a", 256+5), strings.Repeat("a", 100000))
	for _, s := range texts {
		if got, want := IsName(s), shape.MatchString(s); got != want {
			t.Errorf("is %.40q a name: %v", s, got)
		}
	}
}
