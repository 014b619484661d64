package program

import (
	"phrases/api"
	"phrases/number"
	"phrases/pattern"
)

// Get is asked for an argument by its name, and tells if it is there.
type Get func(name string) (api.Value, bool)

// value is an argument's value that was found right.
type value struct {
	text     string
	isNumber bool
	number   number.Number
}

// Check looks through arguments that are handed in: ErrArgs, if they are none.
func Check(args map[string]api.Value) error {
	if len(args) > api.MaxArgs {
		return api.ErrArgs
	}
	for name, v := range args {
		if !pattern.IsName(name) {
			return api.ErrArgs
		}
		if _, err := valueOf(v); err != nil {
			return err
		}
	}
	return nil
}

func valueOf(v api.Value) (value, error) {
	if v.Number {
		n, err := number.Parse(v.Text)
		if err != nil {
			return value{}, api.ErrArgs
		}
		return value{isNumber: true, number: n}, nil
	}
	if len(v.Text) > api.MaxValue {
		return value{}, api.ErrArgs
	}
	return value{text: v.Text}, nil
}

// ask asks for an argument that is needed.
func (get Get) ask(name string) (value, error) {
	v, err := get.call(name)
	if err != nil {
		return value{}, err
	}
	return valueOf(v)
}

// call calls a function that may panic, or be nil: ErrGet, then.
func (get Get) call(name string) (v api.Value, err error) {
	defer func() {
		if recover() != nil {
			v, err = api.Value{}, api.ErrGet
		}
	}()
	v, there := get(name)
	if !there {
		return api.Value{}, api.ErrMissing
	}
	return v, nil
}

func (get Get) askNumber(name string) (number.Number, error) {
	v, err := get.ask(name)
	if err == nil && !v.isNumber {
		err = api.ErrWrong
	}
	return v.number, err
}

func (get Get) askText(name string) (string, error) {
	v, err := get.ask(name)
	if err == nil && v.isNumber {
		err = api.ErrWrong
	}
	return v.text, err
}
