package pattern

import "phrases/api"

// scanner goes through the code points of a pattern. The methods that read something answer ErrSyntax if it doesn't stand there.
type scanner struct {
	text []rune
	at   int
}

// end is what stands behind the last code point.
const end rune = -1

// peek tells the code point that stands so many further on.
func (s *scanner) peek(further int) rune {
	if s.at+further >= len(s.text) {
		return end
	}
	return s.text[s.at+further]
}

// take passes over a code point, if it is that which is next.
func (s *scanner) take(c rune) bool {
	if s.peek(0) != c {
		return false
	}
	s.at++
	return true
}

func (s *scanner) need(c rune) error {
	if !s.take(c) {
		return s.wrong()
	}
	return nil
}

// wrong is the fault of what is next.
func (s *scanner) wrong() error { return fault(api.ErrSyntax, s.at) }

func (s *scanner) blanks() {
	for isBlank(s.peek(0)) {
		s.at++
	}
}

// comma passes over a comma and the blanks on both sides.
func (s *scanner) comma() error {
	s.blanks()
	if err := s.need(','); err != nil {
		return err
	}
	s.blanks()
	return nil
}

// word reads all letters, digits and `_` that stand together, none too: its caller tells which words may stand there.
func (s *scanner) word() string {
	from := s.at
	for isInName(s.peek(0)) {
		s.at++
	}
	return string(s.text[from:s.at])
}

// name reads a name. One that is too long is wrong where it grows too long, not where it begins.
func (s *scanner) name() (string, error) {
	if isDigit(s.peek(0)) {
		return "", s.wrong()
	}
	from := s.at
	name := s.word()
	switch {
	case name == "":
		return "", s.wrong()
	case len(name) > api.MaxName:
		return "", fault(api.ErrSyntax, from+api.MaxName)
	}
	return name, nil
}

// value reads a V, which is wrong at the first digit that is too much.
func (s *scanner) value() (uint32, error) {
	var v uint32
	from := s.at
	for isDigit(s.peek(0)) {
		digits := s.at - from
		if digits == api.MaxWhole || digits == 1 && v == 0 {
			return 0, s.wrong()
		}
		v = v*10 + uint32(s.peek(0)-'0')
		s.at++
	}
	if s.at == from {
		return 0, s.wrong()
	}
	return v, nil
}

// IsName tells if a text is a name, wherever it stands.
func IsName(text string) bool {
	if text == "" || len(text) > api.MaxName || isDigit(rune(text[0])) {
		return false
	}
	for _, c := range text {
		if !isInName(c) {
			return false
		}
	}
	return true
}

func isBlank(c rune) bool { return c == ' ' || c == '\t' || c == '\n' || c == '\r' }

func isDigit(c rune) bool { return '0' <= c && c <= '9' }

func isInName(c rune) bool {
	return 'a' <= c && c <= 'z' || 'A' <= c && c <= 'Z' || c == '_' || isDigit(c)
}
