package pattern

import (
	"phrases/api"
	"phrases/plural"
)

// kind is what the branches and the writing of an argument make of it.
type kind int

const (
	ofNumber kind = iota + 1
	ofText
)

// checker goes through a tree in the order of the text, so that the first fault that it meets is the one that stands first.
type checker struct {
	kinds map[string]kind
}

// check looks for ErrKind, ErrTwice and ErrOther.
func check(whole Message) error {
	c := checker{kinds: make(map[string]kind)}
	return c.message(whole)
}

func (c checker) message(m Message) error {
	for _, n := range m {
		if err := c.node(n); err != nil {
			return err
		}
	}
	return nil
}

func (c checker) node(n Node) error {
	switch n := n.(type) {
	case Number:
		return c.use(n.Argument, ofNumber)
	case Select:
		if err := c.use(n.Argument, ofText); err != nil {
			return err
		}
		return c.branches(n.Branches)
	case Plural:
		if err := c.use(n.Argument, ofNumber); err != nil {
			return err
		}
		return c.branches(n.Branches)
	}
	return nil
}

// use notes of which kind an argument is: ErrKind, if it is of another one ahead.
func (c checker) use(a Argument, of kind) error {
	was, ok := c.kinds[a.Name]
	if ok && was != of {
		return fault(api.ErrKind, a.At)
	}
	c.kinds[a.Name] = of
	return nil
}

func (c checker) branches(all Branches) error {
	seen := make(map[Selector]struct{})
	for _, b := range all.List {
		if _, twice := seen[b.Selector]; twice {
			return fault(api.ErrTwice, b.At)
		}
		seen[b.Selector] = struct{}{}
		if err := c.message(b.Message); err != nil {
			return err
		}
	}
	if _, ok := seen[Selector{Word: plural.Other}]; !ok {
		return fault(api.ErrOther, all.End)
	}
	return nil
}
