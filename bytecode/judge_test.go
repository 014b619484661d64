package bytecode

import (
	"encoding/binary"
	"hash/fnv"
	"regexp"
	"slices"
	"strconv"
	"strings"

	"phrases/api"
	"phrases/locale"
	"phrases/number"
	"phrases/pattern"
	"phrases/program"
)

// summed is bytes with their sum behind.
func summed(b []byte) []byte {
	h := fnv.New32a()
	h.Write(b)
	return h.Sum(slices.Clone(b))
}

// laid is a program of constants and code.
func laid(constants []string, code []byte) []byte {
	b := binary.BigEndian.AppendUint16([]byte("PH1"), uint16(len(constants)))
	for _, c := range constants {
		b = append(binary.BigEndian.AppendUint16(b, uint16(len(c))), c...)
	}
	return summed(append(binary.BigEndian.AppendUint16(b, uint16(len(code))), code...))
}

// spelt makes code of words: a number is a byte; c, t and w ahead of one make it two bytes, v four.
func spelt(words string) []byte {
	var code []byte
	for _, w := range strings.Fields(words) {
		n, err := strconv.ParseUint(strings.TrimLeft(w, "ctwv"), 10, 32)
		switch {
		case err != nil:
			panic(w)
		case w[0] == 'v':
			code = binary.BigEndian.AppendUint32(code, uint32(n))
		case w[0] > '9':
			code = binary.BigEndian.AppendUint16(code, uint16(n))
		default:
			code = append(code, byte(n))
		}
	}
	return code
}

// step is an instruction as its bytes have it.
type step struct {
	kind, next int
	constants  []string
	value      uint32
	targets    []int
}

// shapes is what follows the byte of each kind: a constant, a name, a value, a target, or pairs of constants and targets.
var shapes = []string{"", "c", "n", "n", "nv", "", "", "vt", "tttttt", "tttttt", "npt", "t"}

var name = regexp.MustCompile(`\A[a-zA-Z_][a-zA-Z0-9_]{0,15}\z`)

// parts takes bytes apart, in another way than Read: the constants, and the code.
func parts(b []byte) (constants []string, code []byte, ok bool) {
	if len(b) < 9 || len(b) > 65535 || string(b[:3]) != "PH1" || string(summed(b[:len(b)-4])) != string(b) {
		return nil, nil, false
	}
	many, b := int(binary.BigEndian.Uint16(b[3:])), b[5:len(b)-4]
	for range many {
		if len(b) < 2 {
			return nil, nil, false
		}
		n := int(binary.BigEndian.Uint16(b))
		if n > 1000 || len(b) < 2+n {
			return nil, nil, false
		}
		constants = append(constants, string(b[2:2+n]))
		b = b[2+n:]
	}
	if len(b) < 3 || int(binary.BigEndian.Uint16(b)) != len(b)-2 {
		return nil, nil, false
	}
	return constants, b[2:], true
}

// stepAt reads the instruction that begins at a place. What isn't there, or may not be, makes it panic.
func stepAt(constants []string, code []byte, at int) step {
	s := step{kind: int(code[at])}
	at++
	word := func() int {
		at += 2
		return int(binary.BigEndian.Uint16(code[at-2 : at]))
	}
	for _, c := range shapes[s.kind] {
		switch c {
		case 'c', 'n':
			s.constants = append(s.constants, constants[word()])
			if c == 'n' && !name.MatchString(s.constants[0]) {
				panic("no name")
			}
		case 'v':
			at += 4
			s.value = binary.BigEndian.Uint32(code[at-4 : at])
			if s.value > 999999999 {
				panic("too much")
			}
		case 't':
			s.targets = append(s.targets, word())
		case 'p':
			for range word() {
				s.constants = append(s.constants, constants[word()])
				s.targets = append(s.targets, word())
			}
		}
	}
	s.next = at
	return s
}

// judged takes bytes apart and tells if they are a program: all that is at hand is tried, from the first instruction on, with as many numbers as are entered then.
func judged(b []byte) (steps map[int]step, ok bool) {
	defer func() {
		if recover() != nil {
			ok = false
		}
	}()
	constants, code, ok := parts(b)
	if !ok {
		return nil, false
	}
	steps = make(map[int]step)
	for at := 0; at < len(code); at = steps[at].next {
		steps[at] = stepAt(constants, code, at)
	}
	met := make(map[int]int)
	type state struct{ at, entered int }
	for tries := []state{{}}; len(tries) > 0; {
		s := tries[0]
		tries = tries[1:]
		if n, twice := met[s.at]; twice {
			if n != s.entered {
				return nil, false
			}
			continue
		}
		met[s.at] = s.entered
		i, there := steps[s.at]
		least, change := 0, 0
		switch {
		case i.kind == 4:
			change = 1
		case i.kind == 5:
			least, change = 1, -1
		case i.kind > 5 && i.kind < 10:
			least = 1
		}
		if !there || s.entered < least || s.entered > 6 || i.kind == 0 && s.entered != 0 {
			return nil, false
		}
		if i.kind > 0 && i.kind < 8 {
			tries = append(tries, state{i.next, s.entered + change})
		}
		for _, to := range i.targets {
			if to <= s.at {
				return nil, false
			}
			tries = append(tries, state{to, s.entered})
		}
	}
	return steps, len(met) == len(steps)
}

// teller does what steps say, by their places.
type teller struct {
	in      locale.Locale
	args    map[string]api.Value
	boom    string
	entered [][2]number.Number
	said    string
	asked   []string
	err     api.Errno
}

func (o *teller) ask(name, as string) (api.Value, number.Number) {
	o.asked = append(o.asked, name)
	v, ok := o.args[name]
	n, err := number.Parse(v.Text)
	switch {
	case name == o.boom:
		o.err = api.ErrGet
	case !ok:
		o.err = api.ErrMissing
	case v.Number && err != nil || !v.Number && len(v.Text) > 60:
		o.err = api.ErrArgs
	case as == "number" && !v.Number || as == "text" && v.Number:
		o.err = api.ErrWrong
	}
	return v, n
}

// obey goes from step to step up to the end, or up to an error.
func (o *teller) obey(steps map[int]step) {
	for at := 0; o.err == api.OK && steps[at].kind != 0; {
		at = o.do(steps[at])
	}
	if o.err != api.OK {
		o.said = ""
	}
}

// do does a step, and tells where the next one is.
func (o *teller) do(s step) int {
	var last [2]number.Number
	if len(o.entered) > 0 {
		last = o.entered[len(o.entered)-1]
	}
	switch s.kind {
	case 1:
		o.said += s.constants[0]
	case 2:
		v, n := o.ask(s.constants[0], "")
		if v.Number && o.err == api.OK {
			o.said += o.in.Write(n)
		} else {
			o.said += v.Text
		}
	case 3:
		if _, n := o.ask(s.constants[0], "number"); o.err == api.OK {
			o.said += o.in.Write(n)
		}
	case 4:
		if _, n := o.ask(s.constants[0], "number"); o.err == api.OK {
			o.entered = append(o.entered, [2]number.Number{n, n.Less(s.value)})
		}
	case 5:
		o.entered = o.entered[:len(o.entered)-1]
	case 6:
		o.said += o.in.Write(last[1])
	case 7:
		if last[0].Is(s.value) {
			return s.targets[0]
		}
	case 8, 9:
		category := o.in.Cardinal(last[1])
		if s.kind == 9 {
			category = o.in.Ordinal(last[1])
		}
		return s.targets[slices.Index(strings.Fields("zero one two few many other"), category)]
	case 10:
		v, _ := o.ask(s.constants[0], "text")
		if k := slices.Index(s.constants[1:], v.Text); k >= 0 {
			return s.targets[k]
		}
		return s.targets[len(s.targets)-1]
	case 11:
		return s.targets[0]
	}
	return s.next
}

// compiled is the code of a pattern that is right.
func compiled(p string) program.Code {
	tree, err := pattern.New(p)
	if err != nil {
		panic(p + ": " + err.Error())
	}
	return program.Compile(tree)
}
