// Package pattern reads patterns (P8, P9), writes them in their one form (P10) and goes through their arguments (P11).
package pattern

import (
	"unicode/utf8"

	"phrases/api"
)

// New makes a tree of a pattern: its first fault, if it has one.
func New(p string) (Message, error) {
	text, err := runesOf(p)
	if err != nil {
		return nil, err
	}
	whole, err := parse(text)
	if err != nil {
		return nil, err
	}
	if err := check(whole); err != nil {
		return nil, err
	}
	return whole, nil
}

// runesOf takes a pattern apart by hand, since a conversion would hide the bytes that begin no code point.
func runesOf(p string) ([]rune, error) {
	if len(p) > api.MaxText {
		return nil, fault(api.ErrLong, 0)
	}
	var text []rune
	for p != "" {
		c, size := utf8.DecodeRuneInString(p)
		if c == utf8.RuneError && size == 1 {
			return nil, fault(api.ErrText, len(text))
		}
		text = append(text, c)
		p = p[size:]
	}
	return text, nil
}

func fault(err api.Errno, at int) error { return &api.Fault{Err: err, At: at} }
