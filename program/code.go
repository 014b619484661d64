// Package program makes programs of patterns (P12) and runs them (P13 to P15).
package program

// Code is the instructions of a program, one behind the other. Their targets are places in it, each further on than the instruction itself.
type Code []Instruction

// Instruction is a step of a program. The types of this file are all that there are.
type Instruction interface {
	isInstruction()
}

// End is the end.
type End struct{}

// Say says a text.
type Say struct {
	Text string
}

// SayArgument says an argument, as {n}.
type SayArgument struct {
	Name string
}

// SayNumber says an argument that must be a number, as {n, number}.
type SayNumber struct {
	Name string
}

// Enter enters an argument that must be a number, and it less an offset.
type Enter struct {
	Name   string
	Offset uint32
}

// Leave leaves the number that was entered last.
type Leave struct{}

// SayEntered says the number that was entered last, less its offset.
type SayEntered struct{}

// IfEqual goes to its target if the number that was entered last, as it was given, is equal to a value.
type IfEqual struct {
	Value  uint32
	Target int
}

// ByCategory goes where the category of the number that was entered last, less its offset, has its target.
type ByCategory struct {
	Ordinal bool
	Targets [6]int // in the order of plural.Categories
}

// ByText goes where an argument that must be a text has its target, or to that of all others.
type ByText struct {
	Name   string
	Cases  []Case
	Others int
}

// Case is a text and its target.
type Case struct {
	Text   string
	Target int
}

// Jump goes to its target.
type Jump struct {
	Target int
}

func (End) isInstruction()         {}
func (Say) isInstruction()         {}
func (SayArgument) isInstruction() {}
func (SayNumber) isInstruction()   {}
func (Enter) isInstruction()       {}
func (Leave) isInstruction()       {}
func (SayEntered) isInstruction()  {}
func (IfEqual) isInstruction()     {}
func (ByCategory) isInstruction()  {}
func (ByText) isInstruction()      {}
func (Jump) isInstruction()        {}
