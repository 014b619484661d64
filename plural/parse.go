package plural

import (
	"slices"
	"strconv"

	"phrases/api"
)

// parser goes through the words, numbers and signs of a condition; the methods that read something of it answer ErrRule if it doesn't stand there.
type parser struct {
	left []string
}

// parse makes a function of a whole condition.
func parse(parts []string) (condition, error) {
	p := &parser{left: parts}
	whole, err := p.or()
	if err != nil || len(p.left) > 0 {
		return nil, api.ErrRule
	}
	return whole, nil
}

// next takes the next part, which is empty at the end.
func (p *parser) next() string {
	if len(p.left) == 0 {
		return ""
	}
	part := p.left[0]
	p.left = p.left[1:]
	return part
}

// take takes the next part if it is one of those.
func (p *parser) take(those ...string) bool {
	if len(p.left) == 0 || !slices.Contains(those, p.left[0]) {
		return false
	}
	p.left = p.left[1:]
	return true
}

// row reads one member and more, with a part between them, and puts them together from the left.
func (p *parser) row(member func() (condition, error), between string, join func(a, b condition) condition) (condition, error) {
	all, err := member()
	if err != nil {
		return nil, err
	}
	for p.take(between) {
		more, err := member()
		if err != nil {
			return nil, err
		}
		all = join(all, more)
	}
	return all, nil
}

func (p *parser) or() (condition, error) { return p.row(p.and, "or", either) }

func (p *parser) and() (condition, error) { return p.row(p.relation, "and", both) }

func (p *parser) relation() (condition, error) {
	of := operandOf(p.next())
	if of == nil {
		return nil, api.ErrRule
	}
	if p.take("mod", "%") {
		m, err := p.value()
		if err != nil || m == 0 {
			return nil, api.ErrRule
		}
		of = modulo(of, m)
	}
	return p.how(of)
}

func (p *parser) how(of operand) (condition, error) {
	switch {
	case p.take("="):
		return p.list(of, false, false)
	case p.take("!="):
		return p.list(of, true, false)
	case p.take("is"):
		return p.is(of)
	}
	not := p.take("not")
	switch {
	case p.take("in"):
		return p.list(of, not, false)
	case p.take("within"):
		return p.list(of, not, true)
	}
	return nil, api.ErrRule
}

func (p *parser) is(of operand) (condition, error) {
	not := p.take("not")
	v, err := p.value()
	if err != nil {
		return nil, err
	}
	return turned(span(of, v, v), not), nil
}

func (p *parser) list(of operand, not, within bool) (condition, error) {
	item := func() (condition, error) { return p.item(of, within) }
	items, err := p.row(item, ",", either)
	if err != nil {
		return nil, err
	}
	return turned(items, not), nil
}

func (p *parser) item(of operand, within bool) (condition, error) {
	first, err := p.value()
	if err != nil {
		return nil, err
	}
	last := first
	if p.take("..") {
		last, err = p.value()
	}
	switch {
	case err != nil || last < first:
		return nil, api.ErrRule
	case within:
		return stretch(of, first, last), nil
	}
	return span(of, first, last), nil
}

// value reads a V.
func (p *parser) value() (uint64, error) {
	digits := p.next()
	v, err := strconv.ParseUint(digits, 10, 64)
	if err != nil || len(digits) > api.MaxWhole || len(digits) > 1 && digits[0] == '0' {
		return 0, api.ErrRule
	}
	return v, nil
}
