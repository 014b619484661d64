package pattern

// Message is what a message says, part by part. No two texts stand side by side in it.
type Message []Node

// Node is a part of a message. The types of this file are all that there are.
type Node interface {
	isNode()
}

// Text stands for itself, its quotes and doubled apostrophes being undone.
type Text struct {
	Said string
}

// Sign is the number sign that stands for the number of its branch.
type Sign struct{}

// Simple is {n}.
type Simple struct {
	Argument
}

// Number is {n, number}.
type Number struct {
	Argument
}

// Select is {n, select, ..}.
type Select struct {
	Argument
	Branches
}

// Plural is {n, plural, ..} or, by the ordinal rules, {n, selectordinal, ..}.
type Plural struct {
	Argument
	Ordinal bool
	Offset  uint32
	Branches
}

func (Text) isNode()   {}
func (Sign) isNode()   {}
func (Simple) isNode() {}
func (Number) isNode() {}
func (Select) isNode() {}
func (Plural) isNode() {}

// Argument is an argument's name and the place of its opening brace.
type Argument struct {
	Name string
	At   int
}

// Branches are those of one argument, in the order of the text, and the place of the argument's closing brace.
type Branches struct {
	List []Branch
	End  int
}

// Branch is a message, what it is chosen by, and the place at which that begins.
type Branch struct {
	Selector
	At      int
	Message Message
}

// Selector is a name, a category, or, with no Word, the number that stands behind a `=`.
type Selector struct {
	Word  string
	Value uint32
}
