package program

import (
	"phrases/pattern"
	"phrases/plural"
)

// Compile makes instructions of a whole pattern.
func Compile(whole pattern.Message) Code {
	var b builder
	b.message(whole)
	b.add(End{})
	return b.code
}

// builder sets instructions one behind the other.
type builder struct {
	code Code
}

func (b *builder) add(i Instruction) { b.code = append(b.code, i) }

// here is the place of the instruction that comes next.
func (b *builder) here() int { return len(b.code) }

// hold keeps a place for an instruction whose target is not known yet, and tells what sets it there.
func (b *builder) hold() func(Instruction) {
	at := b.here()
	b.add(nil)
	return func(i Instruction) { b.code[at] = i }
}

func (b *builder) message(m pattern.Message) {
	for _, n := range m {
		switch n := n.(type) {
		case pattern.Text:
			b.add(Say{n.Said})
		case pattern.Sign:
			b.add(SayEntered{})
		case pattern.Simple:
			b.add(SayArgument{n.Name})
		case pattern.Number:
			b.add(SayNumber{n.Name})
		case pattern.Select:
			b.byText(n)
		case pattern.Plural:
			b.byNumber(n)
		}
	}
}

// starts tells where the branches of an argument begin.
type starts map[pattern.Selector]int

// of is where the branch of a word begins; of a word that has none, where that of all others does.
func (s starts) of(word string) int {
	if at, ok := s[pattern.Selector{Word: word}]; ok {
		return at
	}
	return s[pattern.Selector{Word: plural.Other}]
}

// branches sets the branches of an argument. All of them go on behind the last.
func (b *builder) branches(list []pattern.Branch) starts {
	begin := make(starts)
	var ends []func(Instruction)
	for _, branch := range list {
		if len(begin) > 0 {
			ends = append(ends, b.hold())
		}
		begin[branch.Selector] = b.here()
		b.message(branch.Message)
	}
	for _, set := range ends {
		set(Jump{b.here()})
	}
	return begin
}

func (b *builder) byText(n pattern.Select) {
	set := b.hold()
	begin := b.branches(n.List)
	var cases []Case
	for _, branch := range n.List {
		if branch.Word != plural.Other {
			cases = append(cases, Case{branch.Word, begin[branch.Selector]})
		}
	}
	set(ByText{n.Name, cases, begin.of(plural.Other)})
}

func (b *builder) byNumber(n pattern.Plural) {
	b.add(Enter{n.Name, n.Offset})
	var equals []func(starts)
	for _, branch := range n.List {
		if branch.Word == "" {
			set := b.hold()
			equals = append(equals, func(begin starts) { set(IfEqual{branch.Value, begin[branch.Selector]}) })
		}
	}
	set := b.hold()
	begin := b.branches(n.List)
	for _, set := range equals {
		set(begin)
	}
	by := ByCategory{Ordinal: n.Ordinal}
	for i, category := range plural.Categories() {
		by.Targets[i] = begin.of(category)
	}
	set(by)
	b.add(Leave{})
}
