package program

import (
	"reflect"
	"testing"

	"phrases/pattern"
)

func TestCode(t *testing.T) {
	tree, err := pattern.New("a{x}{n,plural,offset:2 one{#}=7{}other{{n,number}}}{s,select,other{}b{c}}")
	if err != nil {
		t.Fatal(err)
	}
	want := Code{
		0:  Say{"a"},
		1:  SayArgument{"x"},
		2:  Enter{"n", 2},
		3:  IfEqual{7, 7},
		4:  ByCategory{false, [6]int{8, 5, 8, 8, 8, 8}},
		5:  SayEntered{},
		6:  Jump{9},
		7:  Jump{9},
		8:  SayNumber{"n"},
		9:  Leave{},
		10: ByText{"s", []Case{{"b", 12}}, 11},
		11: Jump{13},
		12: Say{"c"},
		13: End{},
	}
	if got := Compile(tree); !reflect.DeepEqual(got, want) {
		t.Errorf("P12: %#v", got)
	}
	if got := Compile(nil); !reflect.DeepEqual(got, Code{End{}}) {
		t.Errorf("P12: of an empty pattern: %#v", got)
	}
}

// walker goes through a code as all its ways do: targets lie ahead, so that one pass sees them all.
type walker struct {
	t       *testing.T
	p       string
	at      int
	entered []int // ahead of each instruction; -1: no way leads there yet
}

func (w *walker) to(target, entered int) {
	switch {
	case target <= w.at || target >= len(w.entered):
		w.t.Fatalf("%q: from %d a way leads to %d", w.p, w.at, target)
	case w.entered[target] >= 0 && w.entered[target] != entered:
		w.t.Fatalf("%q: at %d so many numbers are entered: %d or %d", w.p, target, w.entered[target], entered)
	}
	w.entered[target] = entered
}

// checkShape: each instruction is reached, only by ways on which equally many numbers are entered; the end is the last, and there all are left.
func checkShape(t *testing.T, p string, code Code) {
	w := &walker{t: t, p: p, entered: make([]int, len(code))}
	for at := 1; at < len(code); at++ {
		w.entered[at] = -1
	}
	for at, i := range code {
		w.at = at
		n := w.entered[at]
		if n < 0 {
			t.Fatalf("%q: no way leads to %d", p, at)
		}
		w.step(i, n)
	}
}

func (w *walker) step(i Instruction, n int) {
	switch i := i.(type) {
	case End:
		if w.at != len(w.entered)-1 || n != 0 {
			w.t.Fatalf("%q: an end at %d, with %d numbers", w.p, w.at, n)
		}
	case Say, SayArgument, SayNumber:
		w.to(w.at+1, n)
	case Enter:
		w.to(w.at+1, n+1)
	case Leave:
		w.to(w.at+1, n-1)
	case SayEntered:
		w.to(w.at+1, n)
	case IfEqual:
		w.to(w.at+1, n)
		w.to(i.Target, n)
	case ByCategory:
		for _, target := range i.Targets {
			w.to(target, n)
		}
	case ByText:
		for _, c := range i.Cases {
			w.to(c.Target, n)
		}
		w.to(i.Others, n)
	case Jump:
		w.to(i.Target, n)
	default:
		w.t.Fatalf("%q: %#v at %d", w.p, i, w.at)
	}
}
