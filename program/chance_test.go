package program

import (
	"fmt"
	"math/big"
	"math/rand"
	"slices"
	"strings"
	"testing"

	"phrases/api"
	"phrases/locale"
	"phrases/pattern"
)

// chanced is a locale whose rules are those of cardinalOf and ordinalOf.
var chanced = api.Locale{
	Cardinal: []api.Rule{{Name: "one", When: "i = 1 and v = 0"}, {Name: "zero", When: "n = 0"}, {Name: "few", When: "v = 0 and i % 10 = 2..4"}, {Name: "many", When: "v != 0"}},
	Ordinal:  []api.Rule{{Name: "two", When: "i % 10 = 2"}, {Name: "many", When: "v = 2"}},
	Minus:    '\u2212', Point: ',', Group: '.', First: 3,
	Digits: "\u0660\u0661\u0662\u0663\u0664\u0665\u0666\u0667\u0668\u0669",
}

func cardinalOf(whole, behind string) string {
	switch {
	case whole == "1" && behind == "":
		return "one"
	case strings.Trim(whole+behind, "0") == "":
		return "zero"
	case behind == "" && strings.ContainsAny(whole[len(whole)-1:], "234"):
		return "few"
	case behind != "":
		return "many"
	}
	return "other"
}

func ordinalOf(whole, behind string) string {
	switch {
	case strings.HasSuffix(whole, "2"):
		return "two"
	case len(behind) == 2:
		return "many"
	}
	return "other"
}

// written is a number's text as the locale has it.
func written(s string) string {
	minus := strings.HasPrefix(s, "-")
	whole, behind, point := strings.Cut(strings.TrimPrefix(s, "-"), ".")
	out := ""
	for i, c := range whole {
		if i > 0 && (len(whole)-i)%3 == 0 {
			out += "."
		}
		out += string(c - '0' + 0x660)
	}
	if point {
		out += ","
	}
	for _, c := range behind {
		out += string(c - '0' + 0x660)
	}
	if minus {
		return "\u2212" + out
	}
	return out
}

// lessBy is a number's text less an offset, worked out with fractions.
func lessBy(s string, offset int64) string {
	_, behind, _ := strings.Cut(s, ".")
	n, _ := new(big.Rat).SetString(s)
	return n.Sub(n, new(big.Rat).SetInt64(offset)).FloatString(len(behind))
}

// maker writes a pattern by chance and, arguments being there already, what it says, what it asks for, and its error.
type maker struct {
	*rand.Rand
	args  map[string]api.Value
	boom  string
	spelt strings.Builder
	said  strings.Builder
	asked []string
	err   api.Errno
}

func (m *maker) pick(s string) string {
	words := strings.Fields(s)
	return words[m.Intn(len(words))]
}

const numerals = "0 0.00 1 1.0 -1 2 2.50 -2 3 5 12 10 0.5 22 1000 1001 -1000.25 1234567 999999999 1000000000 999999999999999999999999999999 -999999999999999999999999999999 -99999999999999999999999999999.9 0.00000000000000000000000000001"

// chooseArgs fills in arguments: now and then one is missing, wrong, or no value.
func (m *maker) chooseArgs() {
	m.args = make(map[string]api.Value)
	for _, name := range []string{"n", "m", "s", "t"} {
		number := name == "n" || name == "m"
		switch m.Intn(24) {
		case 0:
			continue
		case 1:
			number = !number
		case 2:
			m.args[name] = api.Value{Text: strings.Repeat("v", 61)}
			continue
		case 3:
			m.args[name] = api.Value{Text: m.pick("-0 01 x . 1."), Number: true}
			continue
		}
		m.args[name] = api.Value{Text: m.pick("a b c other \u00e9 \xff {n} # 1 A " + strings.Repeat("v", 60)), Number: number}
		if number {
			m.args[name] = api.Value{Text: m.pick(numerals), Number: true}
		}
	}
	if m.Intn(6) == 0 {
		m.boom = m.pick("n m s t")
	}
}

// isNone tells of values that chooseArgs made to be none.
func isNone(v api.Value) bool {
	return len(v.Text) == 61 || v.Number && slices.Contains(strings.Fields("-0 01 x . 1."), v.Text)
}

// speak says a text, if this is the branch that is taken and no error came ahead.
func (m *maker) speak(live bool, s string) {
	if live && m.err == api.OK {
		m.said.WriteString(s)
	}
}

// ask notes that an argument is needed, as a number (n), a text (s) or either, and tells if all is well.
func (m *maker) ask(live bool, name, as string) (string, bool) {
	if !live || m.err != api.OK {
		return "", false
	}
	m.asked = append(m.asked, name)
	v, ok := m.args[name]
	switch {
	case name == m.boom:
		m.err = api.ErrGet
	case !ok:
		m.err = api.ErrMissing
	case isNone(v):
		m.err = api.ErrArgs
	case as == "n" && !v.Number, as == "s" && v.Number:
		m.err = api.ErrWrong
	}
	return v.Text, m.err == api.OK
}

// message writes a message. In one by number, sign is what a number sign says.
func (m *maker) message(depth int, byNumber bool, sign string, live bool) {
	for range m.Intn(4) {
		switch m.Intn(6) {
		case 0:
			text := m.pick("a \u00e9 b# x+y")
			m.speak(live, text)
			if byNumber {
				text = strings.ReplaceAll(text, "#", "'#'")
			}
			m.spelt.WriteString(text)
		case 1:
			m.spelt.WriteString("''-'{}'")
			m.speak(live, "'-{}")
		case 2:
			m.spelt.WriteString("#")
			m.speak(live, sign)
		default:
			m.argument(depth, live)
		}
		m.spelt.WriteString("+")
		m.speak(live, "+")
	}
}

func (m *maker) argument(depth int, live bool) {
	kind := m.Intn(5)
	if depth == api.MaxDepth || m.spelt.Len() > 500 {
		kind = m.Intn(2)
	}
	switch kind {
	case 0:
		name := m.pick("n m s t")
		m.spelt.WriteString("{" + name + "}")
		if v, ok := m.ask(live, name, ""); ok {
			if m.args[name].Number {
				v = written(v)
			}
			m.speak(live, v)
		}
	case 1:
		name := m.pick("n m")
		m.spelt.WriteString("{" + name + ",number}")
		if v, ok := m.ask(live, name, "n"); ok {
			m.speak(live, written(v))
		}
	case 2:
		m.byText(depth, live)
	default:
		m.byNumber(depth, kind == 3, live)
	}
}

// some are selectors by chance, each once, with other among them.
func (m *maker) some(all string) []string {
	var list []string
	for _, s := range strings.Fields(all) {
		if m.Intn(2) == 0 {
			list = append(list, s)
		}
	}
	list = append(list, "other")
	m.Shuffle(len(list), func(i, j int) { list[i], list[j] = list[j], list[i] })
	return list
}

func (m *maker) byText(depth int, live bool) {
	name := m.pick("s t")
	m.spelt.WriteString("{" + name + ",select,")
	v, ok := m.ask(live, name, "s")
	list := m.some("a b A one")
	if !slices.Contains(list, v) {
		v = "other"
	}
	for _, selector := range list {
		m.spelt.WriteString(selector + "{")
		m.message(depth+1, false, "#", ok && selector == v)
		m.spelt.WriteString("}")
	}
	m.spelt.WriteString("}")
}

func (m *maker) byNumber(depth int, cardinal, live bool) {
	name, offset := m.pick("n m"), []int64{0, 0, 1, 2, 1000, 999999999}[m.Intn(6)]
	kind, categoryOf := "plural", cardinalOf
	if !cardinal {
		kind, categoryOf = "selectordinal", ordinalOf
	}
	fmt.Fprintf(&m.spelt, "{%s,%s,offset:%d ", name, kind, offset)
	v, ok := m.ask(live, name, "n")
	list := m.some("zero one two few many =0 =1 =2 =1000 =999999999")
	sign, taken := "", ""
	if ok {
		less := lessBy(v, offset)
		sign, taken = written(less), takenOf(list, v, less, categoryOf)
	}
	for _, selector := range list {
		m.spelt.WriteString(selector + "{")
		m.message(depth+1, true, sign, ok && selector == taken)
		m.spelt.WriteString("}")
	}
	m.spelt.WriteString("}")
}

// takenOf tells which of the selectors counts.
func takenOf(list []string, given, less string, categoryOf func(whole, behind string) string) string {
	for _, s := range list {
		if s[0] == '=' && strings.Trim(lessBy(given, numberOf(s[1:])), "0.") == "" {
			return s
		}
	}
	whole, behind, _ := strings.Cut(strings.TrimPrefix(less, "-"), ".")
	if category := categoryOf(whole, behind); slices.Contains(list, category) {
		return category
	}
	return "other"
}

func numberOf(s string) int64 {
	var n int64
	fmt.Sscan(s, &n)
	return n
}

// TestByChance holds programs against what the makers of their patterns say.
func TestByChance(t *testing.T) {
	in, err := locale.New(chanced)
	if err != nil {
		t.Fatal(err)
	}
	met := make(map[api.Errno]int)
	for seed := range int64(20000) {
		m := &maker{Rand: rand.New(rand.NewSource(seed))}
		m.chooseArgs()
		m.message(1, false, "#", true)
		p := m.spelt.String()
		if len(p) > api.MaxText {
			continue
		}
		tree, err := pattern.New(p)
		if err != nil {
			t.Fatalf("%q: %v", p, err)
		}
		met[m.err]++
		code := Compile(tree)
		checkShape(t, p, code)
		checkRun(t, p, code, in, m)
	}
	for _, e := range []api.Errno{api.OK, api.ErrArgs, api.ErrMissing, api.ErrWrong, api.ErrGet} {
		if met[e] < 200 {
			t.Errorf("only %d patterns of %d", met[e], e)
		}
	}
}

func checkRun(t *testing.T, p string, code Code, in locale.Locale, m *maker) {
	t.Helper()
	want := m.said.String()
	if m.err != api.OK {
		want = ""
	}
	var asked []string
	got, err := code.Run(in, func(name string) (api.Value, bool) {
		asked = append(asked, name)
		if name == m.boom {
			panic(name)
		}
		v, ok := m.args[name]
		return v, ok
	})
	if e, _ := api.Tell(err); got != want || e != m.err || !slices.Equal(asked, m.asked) {
		t.Fatalf("P13 to P15: %q of %v, panic at %q: %q, %v, asked %v, want %q, %d, asked %v", p, m.args, m.boom, got, err, asked, want, m.err, m.asked)
	}
}
