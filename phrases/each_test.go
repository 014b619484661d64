package phrases_test

import (
	"errors"
	"slices"
	"strings"
	"testing"

	"phrases/api"
	"phrases/phrases"
	"phrases/plain"
)

// nested is a pattern with arguments of all sorts; nestedNames and nestedPlaces are theirs.
const nested = "\u00e9\U0001F600{x} '{y}'{n,plural,one{{a}#}other{{s,select,a{}other{{ y , number}}}{b}}}{x}{n,selectordinal,other{{c}}}"

var (
	nestedNames  = []string{"x", "n", "a", "s", "y", "b", "x", "n", "c"}
	nestedPlaces = []int{2, 11, 25, 36, 55, 70, 75, 78, 101}
)

func TestEach(t *testing.T) {
	for stop := range len(nestedNames) + 2 {
		var names []string
		var places []int
		err := phrases.Each(nested, func(name string, at int) bool {
			names, places = append(names, name), append(places, at)
			return len(names) != stop
		})
		n := len(nestedNames)
		if stop > 0 {
			n = min(n, stop)
		}
		if !slices.Equal(names, nestedNames[:n]) || !slices.Equal(places, nestedPlaces[:n]) || err != nil {
			t.Errorf("P11: Each up to %d: %v at %v, %v", stop, names, places, err)
		}
		names, places, e, _ := plain.Walk(nested, n)
		if !slices.Equal(names, nestedNames[:n]) || !slices.Equal(places, nestedPlaces[:n]) || e != api.OK {
			t.Errorf("P11: plain.Walk up to %d: %v at %v, %d", n, names, places, e)
		}
	}
	for _, p := range []string{"", "a", "'{x}'", "''"} {
		called := 0
		if err := phrases.Each(p, func(string, int) bool { called++; return true }); called != 0 || err != nil {
			t.Errorf("P11: Each(%q): called %d times, %v", p, called, err)
		}
		if err := phrases.Each(p, nil); err != nil {
			t.Errorf("P11: Each(%q) with nil: %v", p, err)
		}
	}
	if err := phrases.Each(nested, nil); !isJust(err, api.ErrGet) {
		t.Errorf("P11: Each with nil: %v, want ErrGet", err)
	}
}

// TestEachPanics: whatever a function panics with, and at whichever call, ErrGet comes out, and nothing more is called.
func TestEachPanics(t *testing.T) {
	var none map[string]int
	var list []int
	for i, boom := range []func(){
		func() { panic("boom") },
		func() { panic(nil) },
		func() { panic(api.ErrNumber) },
		func() { panic(&api.Fault{Err: api.ErrSyntax, At: 3}) },
		func() { panic(error(nil)) },
		func() { none["a"] = 1 },
		func() { _ = list[len(none)] },
		func() { defer func() { panic("again") }(); panic("boom") },
		func() { phrases.Each("{x}", nil); panic("behind another") },
	} {
		for at := 1; at <= len(nestedNames); at++ {
			called := 0
			err := phrases.Each(nested, func(string, int) bool {
				called++
				if called == at {
					boom()
				}
				return true
			})
			if called != at || !isJust(err, api.ErrGet) || errors.Is(err, api.ErrSyntax) {
				t.Errorf("P11: Each with the panic %d at call %d: %v after %d calls", i, at, err, called)
			}
		}
	}
	for n := range len(nestedNames) + 2 {
		k, e := plain.Stop(nested, n)
		want, err := n, api.ErrGet
		if n == 0 || n > len(nestedNames) {
			want, err = len(nestedNames), api.OK
		}
		if k != want || e != err {
			t.Errorf("P11: plain.Stop at %d: %d calls, %d", n, k, e)
		}
	}
}

// TestEachWithin: a function that is handed in may ask the program itself, and what panics within it and is caught there is its own.
func TestEachWithin(t *testing.T) {
	var got []string
	err := phrases.Each("{a}{b}", func(outer string, _ int) bool {
		phrases.Each("{c}{d}", func(inner string, _ int) bool {
			got = append(got, outer+inner)
			return inner == "c"
		})
		func() {
			defer func() { recover() }()
			panic("caught")
		}()
		return true
	})
	if strings.Join(got, " ") != "ac ad bc bd" || err != nil {
		t.Errorf("P11: Each within Each: %v, %v", got, err)
	}
}

// TestPatternsEnd: P1: no text makes the calls panic, and what they answer hangs on it alone.
func TestPatternsEnd(t *testing.T) {
	pieces := []string{"{", "}", "'", "#", ",", "x", "plural", "select", "other", "number", "=", "1", "\u00e9", "\xff", " ", "offset:", "\x00"}
	var grow func(p string, left int)
	grow = func(p string, left int) {
		a, first := phrases.Canon(p)
		b, again := phrases.Canon(p)
		e, at := api.Tell(first)
		e2, at2 := api.Tell(again)
		if a != b || e != e2 || at != at2 || first != nil && a != "" || at < 0 || at > len(p) || e < api.OK || e > api.ErrTwice {
			t.Errorf("P1: Canon(%q) = %q, %v, then %q, %v", p, a, first, b, again)
		}
		each := phrases.Each(p, func(string, int) bool { return true })
		if e2, at2 := api.Tell(each); e2 != e || at2 != at {
			t.Errorf("P11: Each(%q): %v, but Canon: %v", p, each, first)
		}
		if left > 0 {
			for _, piece := range pieces {
				grow(p+piece, left-1)
			}
		}
	}
	grow("", 3)
	grow("{x,plural,other{", 3)
	for _, piece := range pieces {
		grow(strings.Repeat(piece, 1000/len(piece)), 1)
		grow(strings.Repeat("{x,plural,other{"+piece, 20), 1)
	}
}
