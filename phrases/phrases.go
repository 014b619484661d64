// Package phrases: messages with plural forms: see DOC.md.
package phrases

import (
	"phrases/api"
	"phrases/bytecode"
	"phrases/locale"
	"phrases/number"
	"phrases/pattern"
	"phrases/plural"
	"phrases/program"
)

// Program is what a pattern, or bytes, became in a locale. One that no call made, or nil, says nothing.
type Program struct {
	code  program.Code
	in    locale.Locale
	bytes string // what it was loaded from; empty, if it was compiled
}

// Number writes a number (P4).
func Number(s string, l api.Locale) (string, error) {
	to, err := locale.New(l)
	if err != nil {
		return "", err
	}
	n, err := number.Parse(s)
	if err != nil {
		return "", err
	}
	return to.Write(n), nil
}

// Category tells a number's category (P7).
func Category(rules []api.Rule, s string) (string, error) {
	by, err := plural.New(rules)
	if err != nil {
		return "", err
	}
	n, err := number.Parse(s)
	if err != nil {
		return "", err
	}
	return by.Category(n), nil
}

// Choose chooses by a number's category (P7).
func Choose[T any](rules []api.Rule, s string, of map[string]T) (v T, err error) {
	category, err := Category(rules, s)
	if err != nil {
		return v, err
	}
	if v, ok := of[category]; ok {
		return v, nil
	}
	if v, ok := of[plural.Other]; ok {
		return v, nil
	}
	return v, api.ErrNone
}

// Canon writes a pattern in its one form (P10).
func Canon(p string) (string, error) {
	m, err := pattern.New(p)
	if err != nil {
		return "", err
	}
	return pattern.Canon(m), nil
}

// Each goes through a pattern's arguments (P11).
func Each(p string, yield func(name string, at int) bool) error {
	m, err := pattern.New(p)
	if err != nil {
		return err
	}
	for a := range pattern.Arguments(m) {
		more, err := hand(a, yield)
		if err != nil || !more {
			return err
		}
	}
	return nil
}

// hand calls a function that may panic, or be nil: ErrGet, then.
func hand(a pattern.Argument, yield func(name string, at int) bool) (more bool, err error) {
	defer func() {
		if recover() != nil {
			more, err = false, api.ErrGet
		}
	}()
	return yield(a.Name, a.At), nil
}

// Compile makes a program (P12).
func Compile(p string, l api.Locale) (*Program, error) {
	in, err := locale.New(l)
	if err != nil {
		return nil, err
	}
	m, err := pattern.New(p)
	if err != nil {
		return nil, err
	}
	return &Program{code: program.Compile(m), in: in}, nil
}

// Format says what a program makes of arguments (P13).
func (x *Program) Format(args map[string]api.Value) (string, error) {
	if err := program.Check(args); err != nil {
		return "", err
	}
	return x.FormatBy(func(name string) (api.Value, bool) {
		v, ok := args[name]
		return v, ok
	})
}

// FormatBy says what a program makes of what it asks for (P15).
func (x *Program) FormatBy(get func(name string) (api.Value, bool)) (string, error) {
	if x == nil {
		return "", nil
	}
	return x.code.Run(x.in, get)
}

// Save tells a program's bytes (P17).
func (x *Program) Save() []byte {
	switch {
	case x == nil || x.code == nil:
		return nil
	case x.bytes != "":
		return []byte(x.bytes)
	}
	return bytecode.Write(x.code)
}

// Load makes a program of bytes (P17).
func Load(b []byte, l api.Locale) (*Program, error) {
	in, err := locale.New(l)
	if err != nil {
		return nil, err
	}
	code, err := bytecode.Read(b)
	if err != nil {
		return nil, err
	}
	return &Program{code: code, in: in, bytes: string(b)}, nil
}
