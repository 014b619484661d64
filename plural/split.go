package plural

import (
	"strings"

	"phrases/api"
)

// split cuts a condition's text into its words, numbers and signs, without the blanks between them.
func split(text string) ([]string, error) {
	var parts []string
	for text != "" {
		n := lengthOfPart(text)
		if n == 0 {
			return nil, api.ErrRule
		}
		if text[0] != ' ' {
			parts = append(parts, text[:n])
		}
		text = text[n:]
	}
	return parts, nil
}

// lengthOfPart tells how many bytes the part has with which a text begins; 0, if no part begins so.
func lengthOfPart(text string) int {
	switch c := rune(text[0]); {
	case isLetter(c):
		return lengthOfRun(text, isLetter)
	case isDigit(c):
		return lengthOfRun(text, isDigit)
	case strings.HasPrefix(text, "!="), strings.HasPrefix(text, ".."):
		return 2
	case c == ' ', c == '=', c == '%', c == ',':
		return 1
	}
	return 0
}

func lengthOfRun(text string, of func(rune) bool) int {
	return len(text) - len(strings.TrimLeftFunc(text, of))
}

func isLetter(c rune) bool { return 'a' <= c && c <= 'z' }

func isDigit(c rune) bool { return '0' <= c && c <= '9' }
