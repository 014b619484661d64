package bytecode

import (
	"bytes"
	"errors"
	"hash/fnv"
	"math/rand"
	"reflect"
	"slices"
	"strings"
	"testing"

	"phrases/api"
	"phrases/pattern"
	"phrases/program"
)

func TestSum(t *testing.T) {
	for text, want := range map[string]uint32{"": 2166136261, "a": 0xe40c292c, "foobar": 0xbf9cf968, "\x00": 0x050c5d1f} {
		if got := sumOf([]byte(text)); got != want {
			t.Errorf("P16: the sum of %q is %d, want %d", text, got, want)
		}
	}
	r := rand.New(rand.NewSource(1))
	for n := range 1000 {
		b := make([]byte, n)
		r.Read(b)
		h := fnv.New32a()
		h.Write(b)
		if got := sumOf(b); got != h.Sum32() {
			t.Errorf("P16: the sum of %q is %d, want %d", b, got, h.Sum32())
		}
	}
}

func TestWrite(t *testing.T) {
	for p, want := range map[string][]byte{
		"":    []byte("PH1\x00\x00\x00\x01\x00\x06\x16\xf3\x3d"),
		"{n}": []byte("PH1\x00\x01\x00\x01n\x00\x04\x02\x00\x00\x00\xd2\x50\x1e\x88"),
		"a{x}{n,plural,offset:2 one{#}=7{}other{{n,number}}}{s,select,other{}b{a}n{}}{o,selectordinal,other{}}": laid(
			[]string{"a", "x", "n", "s", "b", "o"},
			spelt("1 c0 2 c1 4 c2 v2 7 v7 t37 8 t40 t33 t40 t40 t40 t40 6 11 t43 11 t43 3 c2 5 10 c3 w2 c4 t62 c2 t68 t59 11 t68 1 c0 11 t68 4 c5 v0 9 t88 t88 t88 t88 t88 t88 5 0")),
	} {
		if got := Write(compiled(p)); !bytes.Equal(got, want) {
			t.Errorf("P16, P17: of %q: %q, want %q", p, got, want)
		}
	}
}

// mixer writes patterns by chance, each also with other blanks and quotes.
type mixer struct {
	*rand.Rand
	strings.Builder
}

func (m *mixer) pick(s string) string {
	words := strings.Fields(s)
	return words[m.Intn(len(words))]
}

func (m *mixer) blanks() string { return " \t\r\n "[:m.Intn(3)] }

func (m *mixer) message(depth int) {
	for range m.Intn(4) {
		kinds := 7
		if depth == api.MaxDepth || m.Len() > 600 {
			kinds = 4
		}
		switch m.Intn(kinds) {
		case 0:
			m.WriteString(m.pick("a b \u00e9 '{' '{}' '' ''' x'y don't '}''' a'{'b"))
		case 1:
			m.WriteString("#")
		case 2:
			m.WriteString("{" + m.blanks() + m.pick("n m s t a") + m.blanks() + "}")
		case 3:
			m.WriteString("{" + m.pick("n m") + m.blanks() + "," + m.blanks() + "number}")
		case 4:
			m.branches(depth, m.pick("s t"), "select", m.pick("a b n other1"))
		default:
			kind := m.pick("plural selectordinal")
			if m.Intn(2) == 0 {
				kind += ", offset:" + m.pick("0 1 999999999")
			} else {
				kind += ","
			}
			m.branches(depth, m.pick("n m"), kind, m.pick("=0 =1 =999999999"), m.pick("zero one two few many"))
		}
	}
}

func (m *mixer) branches(depth int, name, kind string, selectors ...string) {
	selectors = append(selectors, "other")
	m.Shuffle(len(selectors), func(i, j int) { selectors[i], selectors[j] = selectors[j], selectors[i] })
	m.WriteString("{" + m.blanks() + name + "," + m.blanks() + kind)
	if kind == "select" {
		m.WriteString(",")
	}
	for _, s := range selectors {
		m.WriteString(" " + m.blanks() + s + m.blanks() + "{")
		m.message(depth + 1)
		m.WriteString("}" + m.blanks())
	}
	m.WriteString("}")
}

// TestWritten: what is written of a pattern is a program, and just that which the pattern became; its one form is written so, too.
func TestWritten(t *testing.T) {
	others := 0
	for seed := range int64(10000) {
		m := &mixer{Rand: rand.New(rand.NewSource(seed))}
		m.message(1)
		p := m.String()
		tree, err := pattern.New(p)
		if err != nil {
			continue
		}
		b := Write(program.Compile(tree))
		again, err := Read(b)
		if _, ok := judged(b); !ok || err != nil || !reflect.DeepEqual(again, program.Compile(tree)) {
			t.Fatalf("P17: %q is written as %q, which is a program: %v, and becomes %#v, %v", p, b, ok, again, err)
		}
		one := pattern.Canon(tree)
		if one == p || len(one) > api.MaxText {
			continue
		}
		others++
		if got := Write(compiled(one)); !bytes.Equal(got, b) {
			t.Fatalf("P17: %q is written as %q, its one form %q as %q", p, b, one, got)
		}
	}
	if others < 3000 {
		t.Errorf("only %d patterns that are not their one form", others)
	}
}

// TestWrittenLongest: whatever stands in the longest patterns, there is room for it.
func TestWrittenLongest(t *testing.T) {
	var equals, texts, selectors strings.Builder
	for k := range 1000 {
		equals.WriteString("=" + string(rune('1'+k%9)) + strings.Repeat("0", k/9) + "{}")
		texts.WriteString("{" + string(rune('a'+k%26)) + "}" + string(rune(' '+k%10)))
		selectors.WriteString(strings.Repeat(string(rune('a'+k%26)), 1+k/26) + "{}")
	}
	inside := func(head, body, tail string) string {
		body = body[:1000-len(head)-len(tail)]
		for cut := len(body); cut >= 0; cut-- {
			if _, err := pattern.New(head + body[:cut] + tail); err == nil {
				return head + body[:cut] + tail
			}
		}
		t.Fatalf("no pattern begins with %q", head)
		return ""
	}
	deep := func(kind, body string) string {
		return inside(strings.Repeat("{n,"+kind+",other{", 5), body, strings.Repeat("}}", 5))
	}
	for _, p := range []string{
		inside("", strings.Repeat("a", 1000), ""), inside("", strings.Repeat("{a}", 334), ""), inside("", texts.String(), ""),
		inside("", strings.Repeat("{a,plural,other{}}", 56), ""), inside("", strings.Repeat("{a,select,other{}}", 56), ""),
		inside("{n,plural,", equals.String(), "other{}}"), inside("{s,select,", selectors.String(), "other{}}"),
		deep("plural", strings.Repeat("#", 1000)), deep("selectordinal", strings.Repeat("#a", 500)), deep("select", strings.Repeat("{a}", 334)),
	} {
		b := Write(compiled(p))
		if code, err := Read(b); err != nil || !reflect.DeepEqual(code, compiled(p)) || len(b) > 10000 {
			t.Errorf("P17: %q is written in %d bytes: %v", p, len(b), err)
		}
	}
}

// constants of the rows of TestRight and TestWrong.
func constants() []string {
	return []string{"n", "x", "b!", "", "abcdefghijklmnop", "abcdefghijklmnopq", "n", strings.Repeat("\xff", 1000), "\u00e9", "1x"}
}

// right are codes that are programs, mostly just within a bound.
func right() []string {
	return []string{
		"0", "1 c0 0", "1 c2 0", "1 c3 0", "1 c7 0", "1 c9 1 c8 0", "2 c0 0", "2 c6 3 c0 0", "3 c4 0", "4 c1 v0 5 0", "4 c4 v999999999 6 5 0",
		strings.Repeat("4 c0 v1 ", 6) + strings.Repeat("6 5 ", 6) + "0",
		strings.Repeat("4 c0 v1 5 ", 20) + "0",
		"4 c0 v0 7 v0 t14 5 0", "4 c0 v0 7 v999999999 t15 6 5 0", "4 c0 v0 7 v1 t16 5 0 5 0",
		"4 c0 v0 8 t20 t20 t20 t20 t20 t20 5 0", "4 c0 v0 9 t20 t21 t22 t23 t24 t25 6 6 6 6 6 6 5 0",
		"4 c0 v0 8 t20 t22 t24 t26 t28 t30 5 0 5 0 5 0 5 0 5 0 5 0",
		"10 c0 w0 t7 0", "10 c4 w1 c3 t12 t11 0 0", "10 c1 w3 c2 t20 c2 t19 c7 t19 t20 0 0",
		"11 t3 0", "11 t3 11 t6 0", "4 c0 v0 11 t10 5 0",
	}
}

func TestRight(t *testing.T) {
	for _, words := range right() {
		b := laid(constants(), spelt(words))
		if _, ok := judged(b); !ok {
			t.Errorf("the judge finds %q wrong", words)
		}
		if code, err := Read(b); err != nil || len(code) == 0 {
			t.Errorf("P16: %q is a program: %v", words, err)
		}
	}
}

// wrong are codes that are none: what is wrong with them, and they.
func wrong() [][2]string {
	seven := strings.Repeat("4 c0 v1 ", 7)
	return [][2]string{
		{"no such kind", "12"}, {"no such kind", "255"}, {"no such kind behind another", "1 c0 12"}, {"no such kind to which no way leads", "0 12"},
		{"no constant", "1 c10 0"}, {"no constant", "1 c65535 0"}, {"no constant", "10 c0 w1 c10 t11 t11 0"},
		{"no name", "2 c2 0"}, {"no name, but empty", "2 c3 0"}, {"a name that is too long", "3 c5 0"}, {"no name, but text", "4 c8 v0 5 0"}, {"no name, but a digit ahead", "10 c9 w0 t7 0"},
		{"no name, but a thousand bytes", "2 c7 0"}, {"no constant for a name", "2 c10 0"}, {"no constant for a name", "10 c10 w0 t7 0"},
		{"a number that is too great", "4 c0 v1000000000 5 0"}, {"a number that is too great", "4 c0 v4294967295 5 0"}, {"a number that is too great", "4 c0 v0 7 v1000000000 t14 5 0"},
		{"cut off", "1"}, {"cut off", "1 0"}, {"cut off", "0 2"}, {"cut off", "3 0"}, {"cut off", "4 c0"}, {"cut off", "4 c0 w0 0"}, {"cut off", "4 c0 v0 7 v0 0"}, {"cut off", "4 c0 v0 8 t20 t20 t20 t20 t20"}, {"cut off", "4 c0 v0 9 t20 t20 t20 t20 t20 0"}, {"cut off", "10 c0"}, {"cut off", "10 c0 w0"}, {"cut off", "10 c0 w1 c0 t11"}, {"cut off", "10 c0 w65535 c0 t11 t11 0"}, {"cut off", "11"}, {"cut off", "11 0"},
		{"no next instruction", "1 c0"}, {"no next instruction", "2 c0"}, {"no next instruction", "3 c0"}, {"no next instruction", "4 c0 v0"}, {"no next instruction", "4 c0 v0 5"}, {"no next instruction", "4 c0 v0 6"}, {"no next instruction", "4 c0 v0 7 v0 t7"}, {"no next instruction behind an end", "11 t4 0 1 c0"},
		{"a target that is the instruction", "11 t0 0"}, {"a target that is the instruction", "4 c0 v0 7 v1 t7 5 0"}, {"a target that is the instruction", "4 c0 v0 8 t7 t20 t20 t20 t20 t20 5 0"}, {"a target that is the instruction", "4 c0 v0 9 t20 t20 t20 t20 t20 t7 5 0"}, {"a target that is the instruction", "10 c0 w1 c0 t0 t11 0"}, {"a target that is the instruction", "10 c0 w1 c0 t11 t0 0"},
		{"a target ahead", "1 c0 11 t0 0"}, {"a target ahead", "11 t4 0 11 t3"}, {"a target ahead", "1 c0 10 c0 w1 c0 t0 t14 0"}, {"a target ahead", "1 c0 10 c0 w1 c0 t14 t0 0"}, {"a target ahead", "4 c0 v0 1 c0 7 v1 t7 5 0"}, {"a target ahead", "4 c0 v0 6 8 t7 t21 t21 t21 t21 t21 5 0"},
		{"a target within an instruction", "11 t4 1 c0 0"}, {"a target within itself", "11 t1 0"}, {"a target within an instruction", "4 c0 v0 8 t20 t20 t22 t20 t20 t20 1 c0 5 0"}, {"a target within an instruction", "10 c0 w0 t8 1 c0 0"},
		{"a target behind the code", "11 t4 0"}, {"a target behind the code", "11 t65535 0"}, {"a target behind the code", "4 c0 v0 7 v1 t16 5 0"}, {"a target behind the code", "10 c0 w1 c0 t12 t11 0"},
		{"no way leads there", "0 0"}, {"no way leads there", "0 4 c0 v0 0"}, {"no way leads there", "11 t10 4 c0 v0 0"}, {"no way leads there", "11 t4 0 0"}, {"no way leads there", "10 c0 w0 t8 0 0"}, {"no way leads there", "10 c0 w0 t7 0 0 0"}, {"no way leads there", "4 c0 v0 8 t21 t21 t21 t21 t21 t21 6 5 0"}, {"no way leads there but from where none leads", "11 t6 11 t6 0"}, {"no way leads there but from where none leads", "0 11 t4 0"},
		{"nothing to leave", "5 0"}, {"nothing to say", "6 0"}, {"nothing to hold against", "7 v0 t7 0"}, {"nothing to choose by", "8 t13 t13 t13 t13 t13 t13 0"}, {"nothing to choose by", "9 t13 t13 t13 t13 t13 t13 0"},
		{"nothing to leave any more", "4 c0 v0 5 5 0"}, {"nothing to say any more", "4 c0 v0 5 6 0"},
		{"not left at the end", "4 c0 v0 0"}, {"not left at the end", "4 c0 v0 4 c0 v0 5 0"}, {"not left at one of two ends", "4 c0 v0 7 v0 t16 5 0 0"},
		{"seven entered", seven + strings.Repeat("5 ", 7) + "0"}, {"seven entered", seven + "6 " + strings.Repeat("5 ", 7) + "0"},
		{"not equally many", "4 c0 v0 7 v0 t15 5 0"}, {"not equally many", "10 c0 w1 c0 t18 t11 4 c0 v0 5 0"}, {"not equally many", "10 c0 w1 c0 t25 t11 4 c0 v0 11 t25 5 0"}, {"not equally many", "10 c0 w1 c0 t18 t11 4 c0 v0 4 c0 v0 5 5 0"},
	}
}

func TestWrong(t *testing.T) {
	for _, c := range wrong() {
		b := laid(constants(), spelt(c[1]))
		if _, ok := judged(b); ok {
			t.Errorf("the judge finds %q right", c[1])
		}
		if code, err := Read(b); code != nil || !errors.Is(err, api.ErrBytes) {
			t.Errorf("P16: %s: %q: %v, %v", c[0], c[1], code, err)
		}
	}
}

// TestParts: what is around the code.
func TestParts(t *testing.T) {
	for _, b := range []string{
		"", "P", "PH1", "PH1\x00\x00", "PH1\x00\x00\x00\x00", "PH1\x00\x00\x00\x01", "PH1\x00\x00\x00", "PH1\x00\x00\x01\x00", "PH1\x00\x00\x00\x02\x00", "PH1\x00\x00\x00\x01\x00\x00", "PH1\x00\x00\x00\x01\x00\x06\x16\xf3\x3d",
		"ph1\x00\x00\x00\x01\x00", "PH2\x00\x00\x00\x01\x00", "PH\x00\x00\x00\x01\x00", "QH1\x00\x00\x00\x01\x00", " PH1\x00\x00\x00\x01\x00",
		"PH1\x00\x01\x00\x01\x00", "PH1\x00\x01\x00\x04n\x00\x01\x00", "PH1\x00\x01\x00\x02n\x00\x01\x00", "PH1\x00\x02\x00\x01n\x00\x01\x00", "PH1\x00\x00\x00\x01n\x00\x01\x00", "PH1\xff\xff\x00\x01n\x00\x01\x00", "PH1\x00\x01\x01\x00n\x00\x01\x00", "PH1\x01\x00\x00\x01n\x00\x01\x00",
		"PH1\x00\x01\x03\xe9" + strings.Repeat("c", 1001) + "\x00\x01\x00", "PH1\x00\x01\xff\xff" + strings.Repeat("c", 65520) + "\x00\x01\x00",
	} {
		if code, err := Read(summed([]byte(b))); code != nil || !errors.Is(err, api.ErrBytes) {
			t.Errorf("P16: %.40q: %v, %v", b, code, err)
		}
		if code, err := Read([]byte(b)); code != nil && b != "PH1\x00\x00\x00\x01\x00\x06\x16\xf3\x3d" || code == nil && !errors.Is(err, api.ErrBytes) {
			t.Errorf("P16: without a sum: %.40q: %v, %v", b, code, err)
		}
	}
	for _, list := range [][]string{nil, {""}, {"", "", ""}, {strings.Repeat("c", 1000)}, slices.Repeat([]string{""}, 256), slices.Repeat([]string{""}, 32760)} {
		if code, err := Read(laid(list, []byte{0})); err != nil || len(code) != 1 {
			t.Errorf("P16: %d constants: %v, %v", len(list), code, err)
		}
	}
}

// TestLongest: 65,535 bytes are a program, one more is too much, whatever part it is that is so long.
func TestLongest(t *testing.T) {
	filled := func(last int) []byte {
		list := append(slices.Repeat([]string{strings.Repeat("c", 1000)}, 65), strings.Repeat("d", last))
		return laid(list, spelt("1 c65 0"))
	}
	jumps := func(n int) []byte {
		var code []byte
		for k := range n {
			code = append(code, 11, byte((k+1)*3>>8), byte((k+1)*3))
		}
		return append(code, 0)
	}
	for _, c := range []struct {
		b     []byte
		size  int
		right bool
	}{
		{filled(387), 65534, true}, {filled(388), 65535, true}, {filled(389), 65536, false}, {filled(1000), 66147, false},
		{laid(nil, jumps(21841)), 65535, true}, {laid([]string{""}, jumps(21841)), 65537, false}, {laid(nil, jumps(21842)), 65538, false},
		{laid(nil, append(jumps(21841), 0)), 65536, false},
	} {
		code, err := Read(c.b)
		if len(c.b) != c.size || (code != nil) != c.right || !c.right && !errors.Is(err, api.ErrBytes) {
			t.Errorf("P16: %d bytes, to be %d: %d instructions, %v", len(c.b), c.size, len(code), err)
		}
	}
}
