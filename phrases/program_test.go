package phrases_test

import (
	"maps"
	"slices"
	"strconv"
	"strings"
	"sync"
	"testing"

	"phrases/api"
	"phrases/phrases"
	"phrases/plain"
)

// given makes arguments of a row of words: a name, "n" for a number or "t" for a text, and a value, in turn.
func given(row ...string) map[string]api.Value {
	args := make(map[string]api.Value)
	for i := 0; i+2 < len(row); i += 3 {
		args[row[i]] = api.Value{Text: row[i+2], Number: row[i+1] == "n"}
	}
	return args
}

// by asks a map.
func by(args map[string]api.Value) func(string) (api.Value, bool) {
	return func(name string) (api.Value, bool) {
		v, ok := args[name]
		return v, ok
	}
}

func compiled(t *testing.T, p string, l api.Locale) *phrases.Program {
	t.Helper()
	x, err := phrases.Compile(p, l)
	if err != nil || x == nil {
		t.Fatalf("P12: Compile(%q): %v, %v", p, x, err)
	}
	return x
}

// says holds all ways to ask a program, and what it is loaded as, against what it is to say, or its error.
func says(t *testing.T, p string, row []string, want string, e api.Errno) {
	t.Helper()
	for k, x := range both(t, p, english()) {
		args := given(row...)
		got, err := x.Format(args)
		if got != want || e == api.OK && err != nil || e != api.OK && !isJust(err, e) {
			t.Errorf("P13, P14, P17: program %d of %q of %v: %q, %v, want %q, %d", k, p, row, got, err, want, e)
		}
		if !maps.Equal(args, given(row...)) {
			t.Errorf("P1: program %d of %q wrote into its arguments %v: %v", k, p, row, args)
		}
		if got, err2, same := plain.Format(x, row); got != want || err2 != e || !same {
			t.Errorf("P13, P14, P17: plain: program %d of %q of %v: %q, %d, want %q, %d", k, p, row, got, err2, want, e)
		}
		got, err = x.FormatBy(by(args))
		if got != want || e == api.OK && err != nil || e != api.OK && !isJust(err, e) {
			t.Errorf("P15, P17: program %d of %q of %v: %q, %v, want %q, %d", k, p, row, got, err, want, e)
		}
	}
}

const (
	nobody = "{n, plural, offset:1 =0 {Nobody} =1 {{who}} one {{who} and # other} other {{who} and # others}}"
	ranks  = "{n, selectordinal, one {#st} two {#nd} few {#rd} other {#th}}"
	has    = "{g, select, f {She} other {They}} has {n, plural, one {# '#'} other {# #s}}"
)

// TestExamples: the document's rows.
func TestExamples(t *testing.T) {
	for _, c := range []struct {
		p    string
		row  []string
		want string
	}{
		{"{x}", []string{"x", "n", "-1234567.50"}, "-1,234,567.50"},
		{"don't '{x}' ''", nil, "don't {x} '"},
		{"'{''}'", nil, "{'}"},
		{"# '#'", nil, "# '#'"},
		{nobody, []string{"n", "n", "0"}, "Nobody"},
		{nobody, []string{"n", "n", "1.0", "who", "t", "A"}, "A"},
		{nobody, []string{"n", "n", "2", "who", "t", "A"}, "A and 1 other"},
		{nobody, []string{"n", "n", "2.0", "who", "t", "A"}, "A and 1.0 others"},
		{nobody, []string{"n", "n", "0.5", "who", "n", "7"}, "7 and -0.5 others"},
		{ranks, []string{"n", "n", "22"}, "22nd"},
		{has, []string{"g", "t", "f", "n", "n", "2"}, "She has 2 2s"},
	} {
		says(t, c.p, c.row, c.want, api.OK)
	}
}

func TestSays(t *testing.T) {
	thirty, sixty := strings.Repeat("9", 30), strings.Repeat("v", 60)
	for _, c := range []struct {
		p    string
		row  []string
		want string
	}{
		{"", nil, ""}, {" \n", nil, " \n"}, {"\u00e9\x00", nil, "\u00e9\x00"}, {"'", nil, "'"}, {"'{", nil, "{"}, {"a'b'c", nil, "a'b'c"},
		{"{x}", []string{"x", "t", ""}, ""}, {"{x}", []string{"x", "t", "\xff\x00{x}#''"}, "\xff\x00{x}#''"}, {"{x}", []string{"x", "t", "1000"}, "1000"}, {"{x}", []string{"x", "t", sixty}, sixty}, {"{x}{x}-{x}", []string{"x", "n", "1000"}, "1,0001,000-1,000"},
		{"{x, number}", []string{"x", "n", "0.00"}, "0.00"}, {"{x, number}", []string{"x", "n", "-1000.5000"}, "-1,000.5000"}, {"{x}{x,number}", []string{"x", "n", "1"}, "11"},
		{"{_}{A}{abcdefghijklmnop}", []string{"_", "t", "1", "A", "t", "2", "abcdefghijklmnop", "t", "3", "a", "t", "4"}, "123"},

		{nobody, []string{"n", "n", "0.00", "who", "n", "1"}, "Nobody"}, {nobody, []string{"n", "n", "1.5", "who", "t", "A"}, "A and 0.5 others"}, {nobody, []string{"n", "n", "-1", "who", "t", "A"}, "A and -2 others"}, {nobody, []string{"n", "n", "10001", "who", "t", ""}, " and 10,000 others"},
		{"{n,plural,=1{x}one{y}other{z}}", []string{"n", "n", "1"}, "x"}, {"{n,plural,one{y}=1{x}other{z}}", []string{"n", "n", "1"}, "x"}, {"{n,plural,one{y}=1{x}other{z}}", []string{"n", "n", "1.00"}, "x"}, {"{n,plural,=1{x}one{y}other{z}}", []string{"n", "n", "-1"}, "y"},
		{"{n,plural,offset:1 =1{x}one{y}other{z}}", []string{"n", "n", "1"}, "x"}, {"{n,plural,offset:1 =1{x}one{y}other{z}}", []string{"n", "n", "2"}, "y"}, {"{n,plural,offset:1 =1{x}one{y}other{z}}", []string{"n", "n", "0"}, "y"}, {"{n,plural,offset:2 =0{x}other{#}}", []string{"n", "n", "2"}, "0"}, {"{n,plural,offset:2 =0{x}other{#}}", []string{"n", "n", "2.000"}, "0.000"},
		{"{n,plural,=999999999{x}other{#}}", []string{"n", "n", "999999999.0"}, "x"}, {"{n,plural,=999999999{x}other{#}}", []string{"n", "n", "9999999990"}, "9,999,999,990"}, {"{n,plural,=1{x}other{#}}", []string{"n", "n", "4294967297"}, "4,294,967,297"}, {"{n,plural,offset:999999999 other{#}}", []string{"n", "n", "0.25"}, "-999,999,998.75"},
		{"{n,plural,other{o}one{y}}", []string{"n", "n", "1"}, "y"}, {"{n,plural,zero{0}two{2}few{f}many{m}other{o}}", []string{"n", "n", "1"}, "o"}, {"{n,plural,one{}other{o}}", []string{"n", "n", "1"}, ""},
		{"{n,plural,offset:1 other{#}}", []string{"n", "n", "-" + thirty}, "-1" + strings.Repeat(",000", 10)}, {"{n,plural,offset:1 other{#}}", []string{"n", "n", "1" + strings.Repeat("0", 29)}, "99" + strings.Repeat(",999", 9)},
		{"{n,plural,offset:2 other{#}}", []string{"n", "n", "0." + strings.Repeat("0", 28) + "1"}, "-1." + thirty[:29]},

		{ranks, []string{"n", "n", "11"}, "11th"}, {ranks, []string{"n", "n", "1001"}, "1,001st"}, {ranks, []string{"n", "n", "3.0"}, "3.0rd"}, {ranks, []string{"n", "n", "3.5"}, "3.5th"}, {ranks, []string{"n", "n", "-13"}, "-13th"},
		{"{n,selectordinal,offset:1 =2{x}two{y}other{z}}", []string{"n", "n", "3"}, "y"}, {"{n,selectordinal,offset:1 =2{x}two{y}other{z}}", []string{"n", "n", "2"}, "x"},
		{"{n,selectordinal,offset:999999999 one{#a}two{#b}few{#c}other{#d}}", []string{"n", "n", "-" + thirty[:29] + "3"}, "-1" + strings.Repeat(",000", 7) + ",999,999,992b"},
		{"{n,plural,one{c}other{o}}{n,selectordinal,one{c}other{o}}", []string{"n", "n", "21"}, "oc"},

		{has, []string{"g", "t", "other", "n", "n", "1"}, "They has 1 #"}, {has, []string{"g", "t", "F", "n", "n", "0"}, "They has 0 0s"}, {has, []string{"g", "t", "", "n", "n", "1.0"}, "They has 1.0 1.0s"}, {has, []string{"g", "t", "f\x00", "n", "n", "1"}, "They has 1 #"},
		{"{s,select,other{o}one{1}abcdefghijklmnop{2}}", []string{"s", "t", "abcdefghijklmnop"}, "2"}, {"{s,select,other{o}one{1}}", []string{"s", "t", "one"}, "1"}, {"{s,select,other{{s}}}", []string{"s", "t", sixty}, sixty},

		{"{n,plural,other{#{m,plural,offset:1 other{#{s,select,other{#{n,plural,offset:5 other{#}}#}}#}}#}}", []string{"n", "n", "7", "m", "n", "4", "s", "t", "x"}, "73#2#37"},
		{"{n,plural,=1{{n,plural,=1{a}other{b}}}other{{n,plural,=1{c}other{d}}}}", []string{"n", "n", "2"}, "d"},
		{"{a,plural,other{{a,plural,offset:1 other{{a,plural,offset:2 other{{a,plural,offset:3 other{{a,plural,offset:4 other{#}}#}}#}}#}}#}}", []string{"a", "n", "9"}, "56789"},
	} {
		says(t, c.p, c.row, c.want, api.OK)
	}
}

func TestSaysErrors(t *testing.T) {
	for _, c := range []struct {
		p   string
		row []string
		e   api.Errno
	}{
		{"{x}", nil, api.ErrMissing}, {"text {x}", []string{"X", "t", "a"}, api.ErrMissing}, {"{x,number}", nil, api.ErrMissing}, {"{x,plural,other{}}", nil, api.ErrMissing}, {"{x,selectordinal,other{}}", nil, api.ErrMissing}, {"{x,select,other{}}", nil, api.ErrMissing},
		{"{x,number}", []string{"x", "t", "1"}, api.ErrWrong}, {"{x,plural,other{}}", []string{"x", "t", "1"}, api.ErrWrong}, {"{x,selectordinal,=1{}other{}}", []string{"x", "t", "1"}, api.ErrWrong}, {"{x,select,other{}}", []string{"x", "n", "1"}, api.ErrWrong}, {"{x,number}", []string{"x", "t", ""}, api.ErrWrong},
		{"{a}{b,number}", []string{"b", "t", ""}, api.ErrMissing}, {"{b,number}{a}", []string{"b", "t", ""}, api.ErrWrong}, {"{b,plural,other{{a}}}", []string{"b", "t", ""}, api.ErrWrong}, {"{b,plural,other{{a}}}{c,number}", []string{"b", "n", "1", "c", "t", ""}, api.ErrMissing}, {"{b,select,other{{c,number}}}{a}", []string{"b", "t", "1", "c", "t", ""}, api.ErrWrong},
		{nobody, []string{"n", "n", "1"}, api.ErrMissing}, {nobody, []string{"who", "t", "A"}, api.ErrMissing}, {nobody, []string{"n", "t", "0", "who", "t", "A"}, api.ErrWrong},
		{"{s,select,a{{x}}other{{y}}}", []string{"s", "t", "a", "y", "t", ""}, api.ErrMissing}, {"{s,select,a{{x}}other{{y}}}", []string{"s", "t", "b", "x", "t", ""}, api.ErrMissing},
	} {
		says(t, c.p, c.row, "", c.e)
	}
	// Branches that are not taken need nothing, and arguments that no one needs may be of any kind.
	says(t, "{s,select,a{{x}{s}}other{ok}}", []string{"s", "t", "b"}, "ok", api.OK)
	says(t, "{n,plural,=1{{x,number}}one{{y}}other{ok}}", []string{"n", "n", "5", "x", "t", "z"}, "ok", api.OK)
	says(t, "ok", []string{"x", "t", "a", "y", "n", "1.00"}, "ok", api.OK)
}

// TestArgs: arguments that are none are ErrArgs, needed or not, ahead of all else.
func TestArgs(t *testing.T) {
	wrong := []map[string]api.Value{
		given("", "t", "a"), given("1", "t", "a"), given("1x", "t", "a"), given("x y", "t", "a"), given("x-", "t", "a"), given(" x", "t", "a"), given("\u00e9", "t", "a"), given("x\xff", "t", "a"), given("abcdefghijklmnopq", "t", "a"), given(strings.Repeat("a", 100000), "t", "a"), given("{x}", "t", "a"),
		given("x", "t", strings.Repeat("v", 61)), given("x", "t", strings.Repeat("\u00e9", 31)), given("x", "t", strings.Repeat("v", 256+60)), given("x", "t", strings.Repeat("1", 100000)),
		given("x", "n", ""), given("x", "n", "a"), given("x", "n", "01"), given("x", "n", "-0"), given("x", "n", "-0.0"), given("x", "n", "1."), given("x", "n", "+1"), given("x", "n", "1,000"), given("x", "n", strings.Repeat("1", 31)), given("x", "n", strings.Repeat("1", 61)),
	}
	for _, p := range []string{"", "text", "{x}", "{x,number}", "{x,select,other{}}", "{missing}"} {
		programs := both(t, p, english())
		for _, args := range wrong {
			for _, n := range []int{0, 3, 15} {
				more := maps.Clone(args)
				for k := range n {
					more["k"+strconv.Itoa(k)] = api.Value{}
				}
				for _, x := range programs {
					if got, err := x.Format(more); got != "" || !isJust(err, api.ErrArgs) {
						t.Errorf("P13: %q of %v: %q, %v, want ErrArgs and nothing beside it", p, args, got, err)
					}
				}
			}
		}
	}
	right := given("x", "t", strings.Repeat("v", 60), "y", "n", "-"+strings.Repeat("9", 29)+".9", "abcdefghijklmnop", "t", "", "_", "n", "0.0", "Z9", "t", strings.Repeat("\xff", 60))
	if got, err := compiled(t, "ok", english()).Format(right); got != "ok" || err != nil {
		t.Errorf("P13: %v: %q, %v", right, got, err)
	}
}

func TestMostArgs(t *testing.T) {
	args := make(map[string]api.Value)
	x, missing := compiled(t, "{k0}", english()), compiled(t, "{missing}", english())
	for n := range 40 {
		args["k"+strconv.Itoa(n)] = api.Value{Text: "v"}
		want, e := "v", api.OK
		e2 := api.ErrMissing
		if len(args) > 16 {
			want, e, e2 = "", api.ErrArgs, api.ErrArgs
		}
		if got, err := x.Format(args); got != want || e == api.OK && err != nil || e != api.OK && !isJust(err, e) {
			t.Errorf("P13: of %d arguments: %q, %v, want %q, %d", len(args), got, err, want, e)
		}
		if got, err := missing.Format(args); got != "" || !isJust(err, e2) {
			t.Errorf("P13: of %d arguments: %q, %v, want %d", len(args), got, err, e2)
		}
	}
	// What is asked has no such bounds, since only what is needed is seen.
	if got, err := x.FormatBy(by(args)); got != "v" || err != nil {
		t.Errorf("P15: %q, %v", got, err)
	}
}

func TestCompileErrors(t *testing.T) {
	var wrong []api.Locale
	for _, change := range []func(l *api.Locale){
		func(l *api.Locale) { *l = api.Locale{} },
		func(l *api.Locale) { l.Minus = 0 },
		func(l *api.Locale) { l.Point = 0xD800 },
		func(l *api.Locale) { l.Next = 10 },
		func(l *api.Locale) { l.Digits = "0" },
		func(l *api.Locale) { l.Cardinal = wrongRules()[0] },
		func(l *api.Locale) { l.Ordinal = wrongRules()[5] },
	} {
		l := english()
		change(&l)
		wrong = append(wrong, l)
	}
	for _, l := range wrong {
		for _, p := range []string{"", "{x}", "{", "\xff", strings.Repeat("a", 1001)} {
			if x, err := phrases.Compile(p, l); x != nil || !isJust(err, api.ErrLocale) {
				t.Errorf("P12: Compile(%.20q) in %+v: %v, %v, want ErrLocale and nothing beside it", p, l, x, err)
			}
		}
	}
	for _, c := range faults() {
		if x, err := phrases.Compile(c.p, english()); x != nil || !isFault(err, c.e, c.at) {
			t.Errorf("P12: Compile(%.100q): %v, %v, want %d at %d and nothing beside it", c.p, x, err, c.e, c.at)
		}
		if x, e, at := plain.Compile(c.p, english()); x != nil || e != c.e || at != c.at {
			t.Errorf("P12: plain.Compile(%.100q): %v, %d at %d, want %d at %d", c.p, x, e, at, c.e, c.at)
		}
		// Beside an error there is no program; what is asked of it even so says nothing.
		x, _ := phrases.Compile(c.p, english())
		if got, err := x.Format(given("x", "t", "a")); got != "" || err != nil {
			t.Errorf("P1: Format of no program: %q, %v", got, err)
		}
	}
}

// TestNoProgram: P1: a program that no call made panics no more than any other.
func TestNoProgram(t *testing.T) {
	for _, x := range []*phrases.Program{nil, {}} {
		if got, err := x.Format(nil); got != "" || err != nil {
			t.Errorf("P1: Format: %q, %v", got, err)
		}
		if got, err := x.Format(given("1", "t", "a")); got != "" || !isJust(err, api.ErrArgs) {
			t.Errorf("P13: Format: %q, %v", got, err)
		}
		if got, err := x.FormatBy(nil); got != "" || err != nil {
			t.Errorf("P1: FormatBy: %q, %v", got, err)
		}
		if b := x.Save(); b != nil {
			t.Errorf("P1: Save: %q", b)
		}
	}
}

// TestLocaleOfProgram: numbers are written, and branches chosen, as the locale of the program has it.
func TestLocaleOfProgram(t *testing.T) {
	l := api.Locale{Cardinal: slavic(), Minus: '\u2212', Point: ',', Group: '\u00a0', First: 3, Next: 2, Digits: "\u0966\u0967\u0968\u0969\u096a\u096b\u096c\u096d\u096e\u096f"}
	p := "{n}|{n,number}|{n,plural,offset:1 zero{zero}one{one}few{few}many{many}other{other}} #|{n,plural,offset:1 other{#}}|{n,selectordinal,one{one}other{other}}|{s}"
	for s, want := range map[string]string{
		"2":         "\u0968|\u0968|one #|\u0967|other|x-1.5",
		"-1234566":  "\u2212\u0967\u0968\u00a0\u0969\u096a\u00a0\u096b\u096c\u096c|\u2212\u0967\u0968\u00a0\u0969\u096a\u00a0\u096b\u096c\u096c|many #|\u2212\u0967\u0968\u00a0\u0969\u096a\u00a0\u096b\u096c\u096d|other|x-1.5",
		"1.50":      "\u0967,\u096b\u0966|\u0967,\u096b\u0966|zero #|\u0966,\u096b\u0966|other|x-1.5",
		"1000.0001": "\u0967\u00a0\u0966\u0966\u0966,\u0966\u0966\u0966\u0967|\u0967\u00a0\u0966\u0966\u0966,\u0966\u0966\u0966\u0967|other #|\u096f\u096f\u096f,\u0966\u0966\u0966\u0967|other|x-1.5",
	} {
		for _, x := range both(t, p, l) {
			if got, err := x.Format(given("n", "n", s, "s", "t", "x-1.5")); got != want || err != nil {
				t.Errorf("P13, P4: of %s: %q, %v, want %q", s, got, err, want)
			}
		}
	}
}

// TestProgramStays: P1: no program changes by what is done later to what was handed in, or by being asked.
func TestProgramStays(t *testing.T) {
	for k := range 2 {
		l := english()
		x := both(t, "{n,plural,one{A}two{C}other{B}}{n,selectordinal,one{D}two{E}other{F}}{n}", l)[k]
		stays(t, x, l)
	}
}

// stays writes into the lists of the locale that a program was made for.
func stays(t *testing.T, x *phrases.Program, l api.Locale) {
	l.Cardinal[0] = api.Rule{Name: "two", When: "n = 1"}
	for i := range l.Ordinal {
		l.Ordinal[i] = api.Rule{}
	}
	l.Minus, l.First, l.Digits = 'x', 9, "x"
	args := given("n", "n", "1")
	for range 3 {
		if got, err := x.Format(args); got != "AD1" || err != nil {
			t.Errorf("P1: %q, %v", got, err)
		}
		if got, err := x.Format(nil); got != "" || !isJust(err, api.ErrMissing) {
			t.Errorf("P1: arguments of an earlier call were kept: %q, %v", got, err)
		}
		args["n"] = api.Value{Text: "-2000", Number: true}
		if got, err := x.Format(args); got != "BF-2,000" || err != nil {
			t.Errorf("P1: %q, %v", got, err)
		}
		args["n"] = api.Value{Text: "1", Number: true}
	}
	y := compiled(t, "{n}", english())
	y.Format(args)
	if got, err := x.Format(args); got != "AD1" || err != nil {
		t.Errorf("P1: by another program: %q, %v", got, err)
	}
}

// TestTogether: programs keep nothing from call to call, so several may be asked at the same time.
func TestTogether(t *testing.T) {
	programs := both(t, nobody, english())
	var all sync.WaitGroup
	for k := range 8 {
		all.Add(1)
		go func() {
			defer all.Done()
			x, s := programs[k%2], strconv.Itoa(k+3)
			for range 200 {
				if got, err := x.Format(given("n", "n", s, "who", "t", "A")); got != "A and "+strconv.Itoa(k+2)+" others" || err != nil {
					t.Errorf("P1: %q, %v", got, err)
				}
				if b := x.Save(); string(b) != string(programs[0].Save()) {
					t.Errorf("P1: saved as %q", b)
				}
			}
		}()
	}
	all.Wait()
}

const asking = "{a}{n, plural, =1 {{b}{a}#} other {#{n, number}{c}{n,selectordinal,other{#{n}}}}}{s, select, x {{d}} other {{e}}}{a}"

func TestAsks(t *testing.T) {
	for _, c := range []struct {
		row   []string
		asked string
		want  string
		e     api.Errno
	}{
		{[]string{"a", "t", "A", "b", "n", "5", "n", "n", "1.0", "s", "t", "x", "d", "t", "D"}, "a n b a s d a", "A5A1.0DA", api.OK},
		{[]string{"a", "t", "A", "c", "t", "C", "n", "n", "2", "s", "t", "y", "e", "t", ""}, "a n n c n n s e a", "A22C22A", api.OK},
		{nil, "a", "", api.ErrMissing},
		{[]string{"a", "t", "A"}, "a n", "", api.ErrMissing},
		{[]string{"a", "t", "A", "n", "t", "1"}, "a n", "", api.ErrWrong},
		{[]string{"a", "t", "A", "n", "n", "-0"}, "a n", "", api.ErrArgs},
		{[]string{"a", "t", strings.Repeat("A", 61)}, "a", "", api.ErrArgs},
		{[]string{"a", "n", "x"}, "a", "", api.ErrArgs},
		{[]string{"a", "t", "A", "n", "n", "2", "c", "n", "7", "s", "n", "1"}, "a n n c n n s", "", api.ErrWrong},
		{[]string{"a", "t", "A", "n", "n", "2", "c", "n", "7", "s", "n", "z"}, "a n n c n n s", "", api.ErrArgs},
		{[]string{"a", "t", "A", "n", "n", "2", "c", "n", "7", "s", "t", "x"}, "a n n c n n s d", "", api.ErrMissing},
	} {
		for k, x := range both(t, asking, english()) {
			got, asked, e := plain.Ask(x, c.row, "")
			if got != c.want || e != c.e || strings.Join(asked, " ") != c.asked {
				t.Errorf("P15, P17: program %d of %q: %q, %d, asked %v, want %q, %d, asked %q", k, c.row, got, e, asked, c.want, c.e, c.asked)
			}
		}
	}
}

// TestAsksAgain: what is asked may answer otherwise each time, and each answer counts just where it was asked for.
func TestAsksAgain(t *testing.T) {
	for _, x := range both(t, "{n}{n,plural,=2{two #}other{{n}#{n,plural,offset:1 =5{five #}other{}}}}{n,number}", english()) {
		asksAgain(t, x)
	}
}

func asksAgain(t *testing.T, x *phrases.Program) {
	k := 0
	got, err := x.FormatBy(func(name string) (api.Value, bool) {
		k++
		return api.Value{Text: strconv.Itoa(k), Number: true}, true
	})
	if got != "1two 23" || err != nil {
		t.Errorf("P15: %q, %v", got, err)
	}
	k = 1
	got, err = x.FormatBy(func(name string) (api.Value, bool) {
		k++
		return api.Value{Text: strconv.Itoa(k), Number: true}, true
	})
	if got != "243five 46" || err != nil {
		t.Errorf("P15: %q, %v", got, err)
	}
	// What stands beside a false doesn't count, whatever it is.
	for _, v := range []api.Value{{}, {Text: "1", Number: true}, {Text: "x", Number: true}, {Text: strings.Repeat("x", 61)}} {
		if got, err := x.FormatBy(func(string) (api.Value, bool) { return v, false }); got != "" || !isJust(err, api.ErrMissing) {
			t.Errorf("P15: false beside %v: %q, %v", v, got, err)
		}
	}
}

// TestAsksPanics: whatever a function panics with, and at whichever call, ErrGet comes out, and nothing more is asked.
func TestAsksPanics(t *testing.T) {
	for _, x := range both(t, asking, english()) {
		asksPanics(t, x)
	}
}

func asksPanics(t *testing.T, x *phrases.Program) {
	var none map[string]int
	var list []int
	names := strings.Fields("a n n c n n s e a")
	args := given("a", "t", "A", "c", "t", "C", "n", "n", "2", "s", "t", "y", "e", "t", "")
	for i, boom := range []func(){
		func() { panic("boom") },
		func() { panic(nil) },
		func() { panic(api.ErrMissing) },
		func() { panic(&api.Fault{Err: api.ErrSyntax, At: 3}) },
		func() { none["a"] = 1 },
		func() { _ = list[len(none)] },
		func() { defer func() { panic("again") }(); panic("boom") },
		func() { x.FormatBy(nil); panic("behind another") },
	} {
		for at := 1; at <= len(names); at++ {
			var asked []string
			got, err := x.FormatBy(func(name string) (api.Value, bool) {
				asked = append(asked, name)
				if len(asked) == at {
					boom()
				}
				v, ok := args[name]
				return v, ok
			})
			if got != "" || !isJust(err, api.ErrGet) || !slices.Equal(asked, names[:at]) {
				t.Errorf("P15: with the panic %d at call %d: %q, %v, asked %v", i, at, got, err, asked)
			}
		}
	}
	if got, asked, e := plain.Ask(x, []string{"a", "t", "A"}, "n"); got != "" || e != api.ErrGet || len(asked) != 2 {
		t.Errorf("P15: plain.Ask: %q, %v, %d", got, asked, e)
	}
	if got, err := x.FormatBy(nil); got != "" || !isJust(err, api.ErrGet) {
		t.Errorf("P15: no function: %q, %v", got, err)
	}
	for _, p := range []string{"", "text", "'{x}'"} {
		for _, y := range both(t, p, english()) {
			if got, err := y.FormatBy(nil); got != strings.ReplaceAll(p, "'", "") || err != nil {
				t.Errorf("P15: no function, and nothing to ask: %q, %v", got, err)
			}
		}
	}
	if got, err := x.FormatBy(by(args)); got != "A22C22A" || err != nil {
		t.Errorf("P15: behind panics: %q, %v", got, err)
	}
}

// TestAsksWithin: a function that is handed in may ask the same program, and what it catches itself is its own.
func TestAsksWithin(t *testing.T) {
	x := compiled(t, "<{a}{n,plural,other{#{b}#}}>", english())
	depth := 0
	var get func(name string) (api.Value, bool)
	get = func(name string) (api.Value, bool) {
		func() {
			defer func() { recover() }()
			panic("caught")
		}()
		if name == "n" {
			return api.Value{Text: strconv.Itoa(depth), Number: true}, true
		}
		if name == "b" && depth < 2 {
			depth++
			inner, err := x.FormatBy(get)
			depth--
			return api.Value{Text: inner}, err == nil
		}
		return api.Value{Text: name}, true
	}
	if got, err := x.FormatBy(get); got != "<a0<a1<a2b2>1>0>" || err != nil {
		t.Errorf("P15: %q, %v", got, err)
	}
}

// TestProgramsEnd: P1: no pattern makes a program that panics, and what it says hangs on its arguments alone.
func TestProgramsEnd(t *testing.T) {
	pieces := []string{"{x}", "{x,number}", "{x,select,", "{x,plural,", "{x,selectordinal,offset:2 ", "=1{", "one{", "other{", "}", "}}", "#", "'", "a", "\xff"}
	values := []map[string]api.Value{nil, given("x", "t", "one"), given("x", "n", "1"), given("x", "n", "-2.50")}
	var grow func(p string, left int)
	grow = func(p string, left int) {
		x, err := phrases.Compile(p, english())
		_, want := phrases.Canon(p)
		e, at := api.Tell(err)
		if e2, at2 := api.Tell(want); e != e2 || at != at2 || (x == nil) != (err != nil) {
			t.Errorf("P12: Compile(%q): %v, %v, but Canon: %v", p, x, err, want)
		}
		var y *phrases.Program
		if err == nil {
			y = both(t, p, english())[1]
		}
		for _, args := range values {
			a, first := x.Format(args)
			b, again := y.FormatBy(by(args))
			if a != b || first != again || first != nil && a != "" {
				t.Errorf("P1, P17: %q of %v: %q, %v, then, loaded, %q, %v", p, args, a, first, b, again)
			}
		}
		if left > 0 {
			for _, piece := range pieces {
				grow(p+piece, left-1)
			}
		}
	}
	grow("", 4)
	grow("{x,plural,other{", 3)
	for _, piece := range pieces {
		grow(strings.Repeat(piece, 1000/len(piece)), 1)
	}
}
