package pattern

import (
	"strings"

	"phrases/api"
	"phrases/plural"
)

// parse reads a whole pattern: the first of ErrSyntax and ErrDepth, if there is one.
func parse(text []rune) (Message, error) {
	s := &scanner{text: text}
	whole, err := s.message(1, false)
	if err != nil {
		return nil, err
	}
	// A message goes up to a brace that closes it: here there is none to close.
	if s.at < len(text) {
		return nil, s.wrong()
	}
	return whole, nil
}

// message reads up to the brace that closes it, or up to the end of the text.
func (s *scanner) message(depth int, byNumber bool) (Message, error) {
	var m Message
	for {
		switch c := s.peek(0); {
		case c == end || c == '}':
			return m, nil
		case c == '{':
			a, err := s.argument(depth)
			if err != nil {
				return nil, err
			}
			m = append(m, a)
		case c == '#' && byNumber:
			s.at++
			m = append(m, Sign{})
		default:
			m = append(m, s.said(byNumber))
		}
	}
}

// said reads what stands for itself, up to what doesn't.
func (s *scanner) said(byNumber bool) Text {
	var b strings.Builder
	quoted := false
	for {
		switch c := s.peek(0); {
		case c == end || !quoted && isSpecial(c, byNumber):
			return Text{b.String()}
		case c != '\'':
			b.WriteRune(c)
		case s.peek(1) == '\'':
			b.WriteRune(c)
			s.at++
		case quoted || isSpecial(s.peek(1), byNumber):
			quoted = !quoted
		default:
			b.WriteRune(c)
		}
		s.at++
	}
}

// isSpecial tells of what stands for itself in quotes alone.
func isSpecial(c rune, byNumber bool) bool {
	return c == '{' || c == '}' || c == '#' && byNumber
}

// argument reads an argument of a message that stands so deep.
func (s *scanner) argument(depth int) (Node, error) {
	of := Argument{At: s.at}
	s.at++
	s.blanks()
	name, err := s.name()
	if err != nil {
		return nil, err
	}
	of.Name = name
	s.blanks()
	if s.take('}') {
		return Simple{of}, nil
	}
	if err := s.comma(); err != nil {
		return nil, err
	}
	return s.kind(of, depth)
}

// kind reads what stands behind an argument's name.
func (s *scanner) kind(of Argument, depth int) (Node, error) {
	from := s.at
	switch s.word() {
	case "number":
		s.blanks()
		return Number{of}, s.need('}')
	case "select":
		return s.selectOf(of, depth)
	case "plural":
		return s.pluralOf(Plural{Argument: of}, depth)
	case "selectordinal":
		return s.pluralOf(Plural{Argument: of, Ordinal: true}, depth)
	}
	return nil, fault(api.ErrSyntax, from)
}

func (s *scanner) selectOf(of Argument, depth int) (Node, error) {
	if err := s.comma(); err != nil {
		return nil, err
	}
	byName := func() (Selector, error) {
		name, err := s.name()
		return Selector{Word: name}, err
	}
	branches, err := s.branches(byName, depth, false)
	return Select{of, branches}, err
}

func (s *scanner) pluralOf(n Plural, depth int) (Node, error) {
	if err := s.comma(); err != nil {
		return nil, err
	}
	offset, err := s.offset()
	if err != nil {
		return nil, err
	}
	n.Offset = offset
	n.Branches, err = s.branches(s.numeral, depth, true)
	return n, err
}

// offset reads an offset, or nothing, if none stands there.
func (s *scanner) offset() (uint32, error) {
	from := s.at
	if s.word() != "offset" || !s.take(':') {
		s.at = from
		return 0, nil
	}
	s.blanks()
	return s.value()
}

// numeral reads the selector of a branch by number.
func (s *scanner) numeral() (Selector, error) {
	if s.take('=') {
		v, err := s.value()
		return Selector{Value: v}, err
	}
	from := s.at
	word := s.word()
	if !plural.IsCategory(word) {
		return Selector{}, fault(api.ErrSyntax, from)
	}
	return Selector{Word: word}, nil
}

// branches reads all branches of an argument, and the brace that closes it.
func (s *scanner) branches(selector func() (Selector, error), depth int, byNumber bool) (Branches, error) {
	var all Branches
	for {
		s.blanks()
		all.End = s.at
		if len(all.List) > 0 && s.take('}') {
			return all, nil
		}
		b, err := s.branch(selector, depth, byNumber)
		if err != nil {
			return Branches{}, err
		}
		all.List = append(all.List, b)
	}
}

func (s *scanner) branch(selector func() (Selector, error), depth int, byNumber bool) (Branch, error) {
	at := s.at
	by, err := selector()
	if err != nil {
		return Branch{}, err
	}
	s.blanks()
	open := s.at
	if err := s.need('{'); err != nil {
		return Branch{}, err
	}
	if depth == api.MaxDepth {
		return Branch{}, fault(api.ErrDepth, open)
	}
	m, err := s.message(depth+1, byNumber)
	if err != nil {
		return Branch{}, err
	}
	return Branch{Selector: by, At: at, Message: m}, s.need('}')
}
