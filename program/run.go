package program

import (
	"slices"
	"strings"

	"phrases/locale"
	"phrases/number"
	"phrases/plural"
)

// Run tells what a program says in a locale. Each time it needs an argument it asks for it, just then.
func (c Code) Run(in locale.Locale, get Get) (string, error) {
	r := run{code: c, in: in, get: get}
	for r.at < len(c) {
		if err := r.step(c[r.at]); err != nil {
			return "", err
		}
	}
	return r.said.String(), nil
}

// run is how far a program has come.
type run struct {
	code    Code
	in      locale.Locale
	get     Get
	at      int
	entered []entered
	said    strings.Builder
}

// entered is a number as it was given, and less its offset.
type entered struct {
	given, less number.Number
}

func (r *run) last() entered { return r.entered[len(r.entered)-1] }

// step does what an instruction does, and finds the next one.
func (r *run) step(i Instruction) error {
	next := r.at + 1
	var err error
	switch i := i.(type) {
	case End:
		next = len(r.code)
	case Say:
		r.said.WriteString(i.Text)
	case SayArgument:
		err = r.sayArgument(i.Name)
	case SayNumber:
		err = r.sayNumber(i.Name)
	case Enter:
		err = r.enter(i)
	case Leave:
		r.entered = r.entered[:len(r.entered)-1]
	case SayEntered:
		r.write(r.last().less)
	case IfEqual:
		if r.last().given.Is(i.Value) {
			next = i.Target
		}
	case ByCategory:
		next = r.byCategory(i)
	case ByText:
		next, err = r.byText(i)
	case Jump:
		next = i.Target
	}
	r.at = next
	return err
}

func (r *run) write(n number.Number) { r.said.WriteString(r.in.Write(n)) }

func (r *run) sayArgument(name string) error {
	v, err := r.get.ask(name)
	if err != nil {
		return err
	}
	if v.isNumber {
		r.write(v.number)
	} else {
		r.said.WriteString(v.text)
	}
	return nil
}

func (r *run) sayNumber(name string) error {
	n, err := r.get.askNumber(name)
	if err != nil {
		return err
	}
	r.write(n)
	return nil
}

func (r *run) enter(i Enter) error {
	n, err := r.get.askNumber(i.Name)
	if err != nil {
		return err
	}
	r.entered = append(r.entered, entered{given: n, less: n.Less(i.Offset)})
	return nil
}

func (r *run) byCategory(i ByCategory) int {
	category := r.in.Cardinal(r.last().less)
	if i.Ordinal {
		category = r.in.Ordinal(r.last().less)
	}
	return i.Targets[slices.Index(plural.Categories(), category)]
}

func (r *run) byText(i ByText) (int, error) {
	text, err := r.get.askText(i.Name)
	if err != nil {
		return 0, err
	}
	for _, c := range i.Cases {
		if c.Text == text {
			return c.Target, nil
		}
	}
	return i.Others, nil
}
