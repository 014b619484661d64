package pattern

import (
	"strings"
	"testing"

	"phrases/api"
)

// machine tells the first of ErrSyntax and ErrDepth in another way than the parser: from one code point to the next, with a stack instead of calls.
type machine struct {
	text  []rune
	state string
	from  int      // where the word, name or V begins that is being read
	fresh bool     // no branch and no offset was read yet
	bare  bool     // no branch was read yet
	kinds []string // of the arguments whose branches are being read
}

func byMachine(p string) (api.Errno, int) {
	m := &machine{text: []rune(p), state: "text"}
	for i := 0; i <= len(m.text); i++ {
		c := rune(-1)
		if i < len(m.text) {
			c = m.text[i]
		}
		for again := true; again; {
			var e api.Errno
			var at int
			again, e, at = m.step(c, i)
			if e != api.OK {
				return e, at
			}
		}
	}
	return api.OK, 0
}

func (m *machine) byNumber() bool {
	return len(m.kinds) > 0 && m.kinds[len(m.kinds)-1] != "select"
}

func (m *machine) step(c rune, i int) (again bool, e api.Errno, at int) {
	blank := strings.ContainsRune(" \t\r\n", c)
	digit := c >= '0' && c <= '9'
	letter := c == '_' || c >= 'a' && c <= 'z' || c >= 'A' && c <= 'Z'
	special := c == '{' || c == '}' || c == '#' && m.byNumber()
	turn := func(state string, again bool) (bool, api.Errno, int) {
		m.state = state
		return again, api.OK, 0
	}
	begin := func(state string) (bool, api.Errno, int) {
		m.from = i
		return turn(state, false)
	}
	stay := func() (bool, api.Errno, int) { return false, api.OK, 0 }
	wrong := func(at int) (bool, api.Errno, int) { return false, api.ErrSyntax, at }
	switch m.state {
	case "text":
		switch {
		case c == -1 && len(m.kinds) == 0:
			return stay()
		case c == -1 || c == '}' && len(m.kinds) == 0:
			return wrong(i)
		case c == '{':
			return turn("open", false)
		case c == '}':
			m.fresh, m.bare = false, false
			return turn("branches", false)
		case c == '\'':
			return turn("apostrophe", false)
		}
		return stay()
	case "apostrophe":
		switch {
		case c == '\'':
			return turn("text", false)
		case special:
			return turn("quote", false)
		}
		return turn("text", true)
	case "quote":
		switch c {
		case '\'':
			return turn("quote's apostrophe", false)
		case -1:
			return turn("text", true)
		}
		return stay()
	case "quote's apostrophe":
		if c == '\'' {
			return turn("quote", false)
		}
		return turn("text", true)
	case "open":
		switch {
		case blank:
			return stay()
		case letter:
			return begin("name")
		}
	case "name", "selector's name":
		switch {
		case (letter || digit) && i-m.from == 16:
			return wrong(i)
		case letter || digit:
			return stay()
		case m.state == "name":
			return turn("named", true)
		}
		return turn("selected", true)
	case "named":
		switch {
		case blank:
			return stay()
		case c == '}':
			return turn("text", false)
		case c == ',':
			return turn("comma", false)
		}
	case "comma":
		switch {
		case blank:
			return stay()
		case letter:
			return begin("kind")
		}
	case "kind":
		word := string(m.text[m.from:i])
		switch {
		case letter || digit:
			return stay()
		case word == "number":
			return turn("number", true)
		case word == "plural" || word == "selectordinal" || word == "select":
			m.kinds = append(m.kinds, word)
			return turn("kinded", true)
		}
		return wrong(m.from)
	case "number":
		switch {
		case blank:
			return stay()
		case c == '}':
			return turn("text", false)
		}
	case "kinded":
		switch {
		case blank:
			return stay()
		case c == ',':
			m.fresh, m.bare = true, true
			return turn("branches", false)
		}
	case "branches":
		switch {
		case blank:
			return stay()
		case c == '}' && !m.bare:
			m.kinds = m.kinds[:len(m.kinds)-1]
			return turn("text", false)
		case m.byNumber() && c == '=':
			return turn("equals", false)
		case m.byNumber() && letter:
			return begin("category")
		case !m.byNumber() && letter:
			return begin("selector's name")
		}
	case "category":
		word := string(m.text[m.from:i])
		switch {
		case letter || digit:
			return stay()
		case strings.Contains(" zero one two few many other ", " "+word+" "):
			return turn("selected", true)
		case word == "offset" && c == ':' && m.fresh:
			m.fresh = false
			return turn("offset", false)
		}
		return wrong(m.from)
	case "offset":
		switch {
		case blank:
			return stay()
		case digit:
			return begin("offset's value")
		}
	case "equals":
		if digit {
			return begin("selector's value")
		}
	case "offset's value", "selector's value":
		switch {
		case digit && (i-m.from == 9 || m.text[m.from] == '0'):
			return wrong(i)
		case digit:
			return stay()
		case m.state == "offset's value":
			return turn("branches", true)
		}
		return turn("selected", true)
	case "selected":
		switch {
		case blank:
			return stay()
		case c == '{' && len(m.kinds) == 6:
			return false, api.ErrDepth, i
		case c == '{':
			return turn("text", false)
		}
	}
	return wrong(i)
}

// meets holds the parser against the machine.
func meets(t *testing.T, p string) {
	t.Helper()
	want, place := byMachine(p)
	_, err := parse([]rune(p))
	if e, at := api.Tell(err); e != want || at != place {
		t.Fatalf("P8, P9: %q: %d at %d, want %d at %d", p, e, at, want, place)
	}
}

// TestRows: all rows of a few pieces, behind beginnings of all sorts.
func TestRows(t *testing.T) {
	pieces := []string{"{", "}", "'", "#", ",", "=", "0", "1", "x", " ", "\u00e9", "other", "one", "offset", ":", "number", "plural", "select", "{x,plural,", "{x,select,", "other{"}
	var grow func(p string, left int)
	grow = func(p string, left int) {
		meets(t, p)
		if left > 0 {
			for _, piece := range pieces {
				grow(p+piece, left-1)
			}
		}
	}
	grow("", 4)
	for _, p := range []string{"{x", "{x,", "{x,number", "{x,plural,", "{x,selectordinal,offset:", "{x,select,", "{x,plural,offset:1", "{x,plural,other{", "{x,select,other{", "{x,plural,other{{x,select,other{", "{x,select,other{{x,plural,other{'", "'{"} {
		grow(p, 3)
	}
}

// TestNearly: patterns that are right, with one code point taken out, put in or changed, and cut off.
func TestNearly(t *testing.T) {
	five := strings.Repeat("{a,select,other{", 5) + "'{'" + strings.Repeat("}}", 5)
	for _, p := range []string{
		"don't '{x}' ''",
		"{ \t\n\rx }{ x , number }",
		"{n, plural, offset: 1 =0 {Nobody} =1 {{who}} one {{who} and # other} other {{who} and # others}}",
		"{n,selectordinal,offset:999999999=123456789{'#'}two{''#'}'}few{#'{''#}}'}other{#th'}'}}",
		"{g, select, f {She # '#'} other {They}} has {n, plural, one {# '#'} other {# #s{g,select,other{'#'}}#}}",
		"{abcdefghijklmnop,select,abcdefghijklmnop{}other\n{}\r}",
		five, strings.Replace(five, "other{", "_1{{b,number}}other{{a}", 3), "{a,plural,other{" + five + "}}", "{a,select,x{" + five + "}other{}}",
	} {
		text := []rune(p)
		for i := range len(text) + 1 {
			head, tail := string(text[:i]), string(text[i:])
			meets(t, head)
			for _, c := range "{}'#,:= \t\n\r\v019_azAZ-@\u00e9\u00a0\u0661\U0001F600\ufffd" {
				meets(t, head+string(c)+tail)
				meets(t, head+string(c)+string(c)+tail)
				if i < len(text) {
					meets(t, head+string(c)+string(text[i+1:]))
				}
			}
			if i < len(text) {
				meets(t, head+string(text[i+1:]))
			}
		}
	}
}
