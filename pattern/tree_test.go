package pattern

import (
	"fmt"
	"math/rand"
	"regexp"
	"slices"
	"strings"
	"testing"
	"unicode/utf8"

	"phrases/api"
)

// maker writes patterns by chance, and beside each its one form, its arguments and its faults.
type maker struct {
	*rand.Rand
	spelt  strings.Builder
	canon  strings.Builder
	args   []Argument
	uses   []use
	faults []api.Fault
}

// use is an argument that is of a kind.
type use struct {
	Argument
	text bool
}

func (m *maker) place() int { return utf8.RuneCountInString(m.spelt.String()) }

func (m *maker) both(s string) {
	m.spelt.WriteString(s)
	m.canon.WriteString(s)
}

// blanks stand in the pattern alone.
func (m *maker) blanks() {
	for m.Intn(3) == 0 {
		m.spelt.WriteByte(" \t\n\r"[m.Intn(4)])
	}
}

// apart is a piece with blanks on both sides.
func (m *maker) apart(s string) {
	m.blanks()
	m.both(s)
	m.blanks()
}

func (m *maker) pick(s string) string {
	words := strings.Fields(s)
	return words[m.Intn(len(words))]
}

func (m *maker) message(depth int, byNumber bool) {
	for range m.Intn(4) {
		m.text(byNumber)
		switch n := m.Intn(4); {
		case n == 0 && byNumber:
			m.both("#")
		case n > 1 && m.spelt.Len() < 500:
			m.argument(depth)
		default:
			m.both("+")
		}
	}
}

var (
	runs    = regexp.MustCompile(`['{}]+`)
	signs   = regexp.MustCompile(`['{}#]+`)
	loneOne = regexp.MustCompile(`([a\x{e9} ])''([a\x{e9} ])`)
)

// text writes a text. What stands beside it is none, or begins with what needs no quotes.
func (m *maker) text(byNumber bool) {
	said := ""
	for range m.Intn(5) {
		said += []string{"a", "\u00e9", " ", "'", "{", "}", "#", "''", "{}"}[m.Intn(9)]
	}
	run := runs
	if byNumber {
		run = signs
	}
	canon := run.ReplaceAllStringFunc(said, func(r string) string {
		doubled := strings.ReplaceAll(r, "'", "''")
		if len(doubled) == 2*len(r) {
			return doubled
		}
		return "'" + doubled + "'"
	})
	m.canon.WriteString(canon)
	begins := said != "" && said[0] != '\'' && run.MatchString(said[:1])
	switch {
	case m.Intn(2) == 0:
		m.spelt.WriteString(canon)
	case begins:
		m.spelt.WriteString("'" + strings.ReplaceAll(said, "'", "''") + "'")
	default:
		m.spelt.WriteString(loneOne.ReplaceAllString(canon, "$1'$2"))
	}
}

func (m *maker) argument(depth int) {
	a := Argument{Name: m.pick("x y z _abcdefghijklm_9"), At: m.place()}
	m.args = append(m.args, a)
	m.both("{")
	m.apart(a.Name)
	kinds := 5
	if depth == api.MaxDepth {
		kinds = 2
	}
	kind := []string{"", "number", "select", "plural", "selectordinal"}[m.Intn(kinds)]
	if kind == "" {
		m.both("}")
		return
	}
	m.uses = append(m.uses, use{a, kind == "select"})
	m.both(",")
	m.canon.WriteByte(' ')
	m.apart(kind)
	if kind != "number" {
		m.both(",")
		m.branches(depth, kind)
	}
	m.both("}")
}

func (m *maker) branches(depth int, kind string) {
	m.blanks()
	selectors := "other other zero one two few many =0 =1 =999999999"
	if kind == "select" {
		selectors = "other other one a _ Zz9 abcdefghijklmnop"
	} else if offset := m.Intn(4); offset > 0 {
		m.spelt.WriteString("offset:")
		m.blanks()
		m.spelt.WriteString(fmt.Sprint(offset - 1))
		m.blanks()
		if offset > 1 {
			fmt.Fprintf(&m.canon, " offset:%d", offset-1)
		}
	}
	var seen []string
	for len(seen) == 0 || m.Intn(3) > 0 {
		s := m.pick(selectors)
		if slices.Contains(seen, s) {
			m.faults = append(m.faults, api.Fault{Err: api.ErrTwice, At: m.place()})
		}
		seen = append(seen, s)
		m.canon.WriteByte(' ')
		m.both(s)
		m.blanks()
		m.canon.WriteByte(' ')
		m.both("{")
		m.message(depth+1, kind != "select")
		m.both("}")
		m.blanks()
	}
	if !slices.Contains(seen, "other") {
		m.faults = append(m.faults, api.Fault{Err: api.ErrOther, At: m.place()})
	}
}

// first is the fault that stands first, if there is one.
func (m *maker) first() (api.Errno, int) {
	for i, u := range m.uses {
		of := slices.IndexFunc(m.uses[:i], func(v use) bool { return v.Name == u.Name })
		if of >= 0 && m.uses[of].text != u.text {
			m.faults = append(m.faults, api.Fault{Err: api.ErrKind, At: u.At})
		}
	}
	if len(m.faults) == 0 {
		return api.OK, 0
	}
	f := slices.MinFunc(m.faults, func(a, b api.Fault) int { return a.At - b.At })
	return f.Err, f.At
}

func TestTrees(t *testing.T) {
	met := make(map[api.Errno]int)
	for seed := range int64(15000) {
		m := maker{Rand: rand.New(rand.NewSource(seed))}
		m.message(1, false)
		p := m.spelt.String()
		if len(p) > api.MaxText {
			continue
		}
		want, place := m.first()
		met[want]++
		tree, err := New(p)
		if e, at := api.Tell(err); e != want || at != place {
			t.Fatalf("P9: %q: %d at %d, want %d at %d", p, e, at, want, place)
		}
		if err != nil {
			continue
		}
		if got := Canon(tree); got != m.canon.String() {
			t.Fatalf("P10: %q: %q, want %q", p, got, m.canon.String())
		}
		if got := slices.Collect(Arguments(tree)); !slices.Equal(got, m.args) {
			t.Fatalf("P11: %q: %v, want %v", p, got, m.args)
		}
		if again, err := New(m.canon.String()); len(m.canon.String()) <= api.MaxText && (err != nil || Canon(again) != m.canon.String()) {
			t.Fatalf("P10: the one form %q is not its own: %v", m.canon.String(), err)
		}
	}
	for _, e := range []api.Errno{api.OK, api.ErrKind, api.ErrTwice, api.ErrOther} {
		if met[e] < 500 {
			t.Errorf("only %d patterns of %d", met[e], e)
		}
	}
}
