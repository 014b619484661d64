package bytecode

import "phrases/program"

// Write writes down a program that a pattern became. Such a one is far within all bounds of bytes: each byte of the pattern makes some ten at most.
func Write(code program.Code) []byte {
	w := writer{numbers: make(map[string]int)}
	for _, i := range code {
		w.begins = append(w.begins, len(w.code))
		w.instruction(i)
	}
	for _, set := range w.later {
		set()
	}
	return w.whole()
}

type writer struct {
	constants []string
	numbers   map[string]int // of the constants
	code      []byte
	begins    []int    // where each instruction begins in the code
	later     []func() // what sets the targets, when it is known where all instructions begin
}

// whole sets all parts of a program one behind the other.
func (w *writer) whole() []byte {
	b := appendTwo([]byte(mark), len(w.constants))
	for _, c := range w.constants {
		b = append(appendTwo(b, len(c)), c...)
	}
	b = append(appendTwo(b, len(w.code)), w.code...)
	return appendFour(b, sumOf(b))
}

func (w *writer) instruction(i program.Instruction) {
	switch i := i.(type) {
	case program.End:
		w.kind(kindEnd)
	case program.Say:
		w.kind(kindSay)
		w.constant(i.Text)
	case program.SayArgument:
		w.kind(kindSayArgument)
		w.constant(i.Name)
	case program.SayNumber:
		w.kind(kindSayNumber)
		w.constant(i.Name)
	case program.Enter:
		w.kind(kindEnter)
		w.constant(i.Name)
		w.number(i.Offset)
	case program.Leave:
		w.kind(kindLeave)
	case program.SayEntered:
		w.kind(kindSayEntered)
	case program.IfEqual:
		w.kind(kindIfEqual)
		w.number(i.Value)
		w.target(i.Target)
	case program.ByCategory:
		w.byCategory(i)
	case program.ByText:
		w.byText(i)
	case program.Jump:
		w.kind(kindJump)
		w.target(i.Target)
	}
}

func (w *writer) kind(k byte) { w.code = append(w.code, k) }

func (w *writer) number(v uint32) { w.code = appendFour(w.code, v) }

// constant writes the number of a constant. A text that stands at several places is one constant.
func (w *writer) constant(text string) {
	n, ok := w.numbers[text]
	if !ok {
		n = len(w.constants)
		w.numbers[text] = n
		w.constants = append(w.constants, text)
	}
	w.code = appendTwo(w.code, n)
}

// target keeps two bytes for where an instruction begins, which is not known yet.
func (w *writer) target(to int) {
	at := len(w.code)
	w.code = appendTwo(w.code, 0)
	w.later = append(w.later, func() { copy(w.code[at:], appendTwo(nil, w.begins[to])) })
}

func (w *writer) byCategory(i program.ByCategory) {
	if i.Ordinal {
		w.kind(kindByOrdinal)
	} else {
		w.kind(kindByCardinal)
	}
	for _, to := range i.Targets {
		w.target(to)
	}
}

func (w *writer) byText(i program.ByText) {
	w.kind(kindByText)
	w.constant(i.Name)
	w.code = appendTwo(w.code, len(i.Cases))
	for _, c := range i.Cases {
		w.constant(c.Text)
		w.target(c.Target)
	}
	w.target(i.Others)
}
