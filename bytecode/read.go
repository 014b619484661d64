package bytecode

import (
	"phrases/api"
	"phrases/pattern"
	"phrases/program"
)

// Read makes a program of bytes: ErrBytes, if they are none. It holds nothing of the bytes, which their owner may write into.
func Read(b []byte) (program.Code, error) {
	end := len(b) - sumSize
	if end < 0 || len(b) > api.MaxBytes || valueOf(b[end:]) != sumOf(b[:end]) {
		return nil, api.ErrBytes
	}
	r := reader{rest: b[:end], begins: make(map[int]int)}
	r.whole()
	if r.err != nil {
		return nil, r.err
	}
	if err := checkWays(r.code); err != nil {
		return nil, err
	}
	return r.code, nil
}

// reader goes through bytes from the first to the last. An error stays: what is read behind it counts for nothing.
type reader struct {
	rest      []byte
	constants []string
	code      program.Code
	begins    map[int]int // which instruction begins at a byte of the code
	later     []func()    // what sets the targets, when it is known where all instructions begin
	err       error
}

func (r *reader) need(holds bool) {
	if !holds {
		r.err = api.ErrBytes
	}
}

func (r *reader) whole() {
	r.need(string(r.take(len(mark))) == mark)
	r.allConstants()
	r.allCode()
	for _, set := range r.later {
		set()
	}
}

func (r *reader) allConstants() {
	for left := r.two(); left > 0 && r.err == nil; left-- {
		length := r.two()
		r.need(length <= api.MaxText)
		r.constants = append(r.constants, string(r.take(length)))
	}
}

func (r *reader) allCode() {
	length := r.two()
	r.need(length > 0 && length == len(r.rest))
	for len(r.rest) > 0 && r.err == nil {
		r.begins[length-len(r.rest)] = len(r.code)
		r.instruction()
	}
}

func (r *reader) instruction() {
	at := len(r.code)
	r.code = append(r.code, nil)
	set := func(i program.Instruction) { r.code[at] = i }
	switch kind := r.one(); kind {
	case kindEnd:
		set(program.End{})
	case kindSay:
		set(program.Say{Text: r.constant()})
	case kindSayArgument:
		set(program.SayArgument{Name: r.name()})
	case kindSayNumber:
		set(program.SayNumber{Name: r.name()})
	case kindEnter:
		set(program.Enter{Name: r.name(), Offset: r.number()})
	case kindLeave:
		set(program.Leave{})
	case kindSayEntered:
		set(program.SayEntered{})
	case kindIfEqual:
		value := r.number()
		r.target(func(to int) { set(program.IfEqual{Value: value, Target: to}) })
	case kindByCardinal, kindByOrdinal:
		r.byCategory(kind == kindByOrdinal, set)
	case kindByText:
		r.byText(set)
	case kindJump:
		r.target(func(to int) { set(program.Jump{Target: to}) })
	default:
		r.need(false)
	}
}

// byCategory sets the instruction with each target anew: behind the last one it is whole.
func (r *reader) byCategory(ordinal bool, set func(program.Instruction)) {
	by := program.ByCategory{Ordinal: ordinal}
	for k := range by.Targets {
		r.target(func(to int) {
			by.Targets[k] = to
			set(by)
		})
	}
}

func (r *reader) byText(set func(program.Instruction)) {
	by := program.ByText{Name: r.name()}
	for left := r.two(); left > 0 && r.err == nil; left-- {
		k := len(by.Cases)
		by.Cases = append(by.Cases, program.Case{Text: r.constant()})
		r.target(func(to int) { by.Cases[k].Target = to })
	}
	r.target(func(to int) {
		by.Others = to
		set(by)
	})
}

// take reads so many bytes; none, if they are not there.
func (r *reader) take(n int) []byte {
	if n > len(r.rest) {
		r.need(false)
		return nil
	}
	taken := r.rest[:n]
	r.rest = r.rest[n:]
	return taken
}

func (r *reader) one() byte { return byte(valueOf(r.take(1))) }

func (r *reader) two() int { return int(valueOf(r.take(2))) }

func (r *reader) number() uint32 {
	v := valueOf(r.take(4))
	r.need(v <= most)
	return v
}

func (r *reader) constant() string {
	n := r.two()
	if n >= len(r.constants) {
		r.need(false)
		return ""
	}
	return r.constants[n]
}

func (r *reader) name() string {
	name := r.constant()
	r.need(pattern.IsName(name))
	return name
}

// target reads a target. The instruction that begins there is yet to come: it is handed on when all of them are known.
func (r *reader) target(set func(to int)) {
	place := r.two()
	r.later = append(r.later, func() {
		to, ok := r.begins[place]
		r.need(ok)
		set(to)
	})
}
