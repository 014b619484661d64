package phrases_test

import (
	"bytes"
	"hash/fnv"
	"math/rand"
	"slices"
	"strings"
	"testing"

	"phrases/api"
	"phrases/phrases"
	"phrases/plain"
)

// both are a program that was compiled, and what it is loaded as from its bytes. On the way these are held against P17.
func both(t *testing.T, p string, l api.Locale) []*phrases.Program {
	t.Helper()
	x := compiled(t, p, l)
	b := x.Save()
	was := bytes.Clone(b)
	y := loaded(t, b, l)
	for i := range b {
		b[i] = 'x'
	}
	if again := x.Save(); len(was) > api.MaxBytes || !bytes.Equal(again, was) {
		t.Errorf("P17, P1: %q is saved as %q, then as %q", p, was, again)
	}
	if again := y.Save(); !bytes.Equal(again, was) {
		t.Errorf("P17, P1: %q is saved as %q, and, loaded, as %q", p, was, again)
	}
	one, err := phrases.Canon(p)
	if err != nil || len(one) > api.MaxText {
		return []*phrases.Program{x, y}
	}
	if b := compiled(t, one, l).Save(); !bytes.Equal(b, was) {
		t.Errorf("P17: %q is saved as %q, its one form %q as %q", p, was, one, b)
	}
	return []*phrases.Program{x, y}
}

func loaded(t *testing.T, b []byte, l api.Locale) *phrases.Program {
	t.Helper()
	x, err := phrases.Load(b, l)
	if err != nil || x == nil {
		t.Fatalf("P17: Load(%q): %v, %v", b, x, err)
	}
	return x
}

// withSum is bytes with their sum behind.
func withSum(b string) []byte {
	h := fnv.New32a()
	h.Write([]byte(b))
	return h.Sum([]byte(b))
}

// The document's programs.
const (
	sayingN       = "PH1\x00\x01\x00\x01n\x00\x04\x02\x00\x00\x00\xd2\x50\x1e\x88"
	sayingNothing = "PH1\x00\x00\x00\x01\x00\x06\x16\xf3\x3d"
)

func TestBytesExamples(t *testing.T) {
	for _, c := range []struct {
		b    string
		row  []string
		want string
		e    api.Errno
	}{
		{sayingN, []string{"n", "n", "-1234567.50"}, "-1,234,567.50", api.OK}, {sayingN, []string{"n", "t", "1000"}, "1000", api.OK}, {sayingN, nil, "", api.ErrMissing}, {sayingN, []string{"n", "n", "01"}, "", api.ErrArgs},
		{sayingNothing, nil, "", api.OK}, {sayingNothing, []string{"n", "n", "1"}, "", api.OK}, {sayingNothing, []string{"1", "n", "1"}, "", api.ErrArgs},
	} {
		x := loaded(t, []byte(c.b), english())
		if got, e, same := plain.Format(x, c.row); got != c.want || e != c.e || !same {
			t.Errorf("P17: %q of %q: %q, %d, want %q, %d", c.b, c.row, got, e, c.want, c.e)
		}
		if b := x.Save(); string(b) != c.b {
			t.Errorf("P17: loaded from %q, saved as %q", c.b, b)
		}
		if y, e := plain.Load([]byte(c.b), english()); y == nil || e != api.OK {
			t.Errorf("P17: plain.Load(%q): %v, %d", c.b, y, e)
		}
	}
	if x, err := phrases.Load([]byte(sayingN), english()); err == nil {
		if got, err := x.FormatBy(nil); got != "" || !isJust(err, api.ErrGet) {
			t.Errorf("P17: %q, %v", got, err)
		}
	}
}

// TestLoadedSays: programs that no pattern is compiled to say and ask what their instructions do, and are saved as they were.
func TestLoadedSays(t *testing.T) {
	head := "PH1\x00\x05\x00\x01n\x00\x01x\x00\x02b!\x00\x01n\x00\x02\xff{"
	enter, zeros := "\x04\x00\x00", "\x00\x00\x00\x00"
	twoEnds := "\x0a\x00\x01\x00\x03\x00\x02\x00\x13\x00\x02\x00\x17\x00\x04\x00\x17\x00\x1b\x01\x00\x02\x00\x01\x00\x04\x00\x02\x00\x03\x00"
	deep := enter + zeros + "\x04\x00\x01\x00\x00\x00\x01\x06\x05\x06\x07\x00\x00\x00\x07\x00\x1b\x01\x00\x02\x06\x05\x02\x00\x01\x00"
	for _, c := range []struct {
		code  string
		row   []string
		want  string
		asked string
		e     api.Errno
	}{
		{"\x01\x00\x04\x01\x00\x00\x01\x00\x02\x00", nil, "\xff{nb!", "", api.OK},
		{"\x02\x00\x00\x02\x00\x03\x03\x00\x00\x00", []string{"n", "n", "1000"}, "1,0001,0001,000", "n n n", api.OK},
		{"\x02\x00\x00\x03\x00\x03\x00", []string{"n", "t", "a"}, "", "n n", api.ErrWrong},
		{twoEnds, []string{"x", "t", "b!", "n", "t", "N"}, "b!", "x", api.OK}, {twoEnds, []string{"x", "t", "\xff{"}, "\xff{", "x", api.OK}, {twoEnds, []string{"x", "t", "", "n", "t", "N"}, "N", "x n", api.OK}, {twoEnds, []string{"x", "t", ""}, "", "x n", api.ErrMissing}, {twoEnds, []string{"x", "n", "1"}, "", "x", api.ErrWrong}, {twoEnds, nil, "", "x", api.ErrMissing},
		{deep, []string{"n", "n", "7.0", "x", "n", "1.5"}, "0.57.07.01.5", "n x x", api.OK}, {deep, []string{"n", "n", "8", "x", "n", "0"}, "-18b!80", "n x x", api.OK}, {deep, []string{"n", "n", "8"}, "", "n x", api.ErrMissing},
		{enter + "\x3b\x9a\xc9\xff\x06\x05\x00", []string{"n", "n", "0.5"}, "-999,999,998.5", "n", api.OK},
	} {
		b := withSum(head + string([]byte{byte(len(c.code) >> 8), byte(len(c.code))}) + c.code)
		x := loaded(t, b, english())
		got, asked, e := plain.Ask(x, c.row, "")
		if got != c.want || e != c.e || strings.Join(asked, " ") != c.asked {
			t.Errorf("P16, P17: %q of %q: %q, %d, asked %v, want %q, %d, asked %q", c.code, c.row, got, e, asked, c.want, c.e, c.asked)
		}
		if got, e, _ := plain.Format(x, c.row); got != c.want || e != c.e {
			t.Errorf("P16, P17: %q of %q: %q, %d, want %q, %d", c.code, c.row, got, e, c.want, c.e)
		}
		if saved := x.Save(); !bytes.Equal(saved, b) {
			t.Errorf("P17: loaded from %q, saved as %q", b, saved)
		}
		if asked != nil {
			if got, again, e := plain.Ask(x, c.row, asked[len(asked)-1]); got != "" || e != api.ErrGet || len(again) != slices.Index(asked, asked[len(asked)-1])+1 {
				t.Errorf("P15, P17: %q of %q: %q, %d, asked %v", c.code, c.row, got, e, again)
			}
		}
	}
}

// TestLoadErrors: a locale that is none counts ahead of bytes that are none.
func TestLoadErrors(t *testing.T) {
	none := english()
	none.Ordinal = wrongRules()[0]
	good := compiled(t, nobody, english()).Save()
	wrong := [][]byte{nil, {}, []byte("PH1"), good[1:], good[:len(good)-1], append(bytes.Clone(good), 0), withSum(string(good)), bytes.Repeat(good, 1000), make([]byte, 65535), make([]byte, 65536), make([]byte, 10000000)}
	for i := range good {
		for bit := range 8 {
			bad := bytes.Clone(good)
			bad[i] ^= 1 << bit
			wrong = append(wrong, bad)
		}
	}
	for _, b := range wrong {
		if x, err := phrases.Load(b, english()); x != nil || !isJust(err, api.ErrBytes) {
			t.Errorf("P17: Load(%.100q): %v, %v, want ErrBytes and nothing beside it", b, x, err)
		}
		if x, e := plain.Load(b, english()); x != nil || e != api.ErrBytes {
			t.Errorf("P17: plain.Load(%.100q): %v, %d, want ErrBytes and nothing beside it", b, x, e)
		}
	}
	for _, b := range append(wrong, good, []byte(sayingN)) {
		for _, l := range []api.Locale{{}, none} {
			if x, err := phrases.Load(b, l); x != nil || !isJust(err, api.ErrLocale) {
				t.Errorf("P17: Load(%.100q) without a locale: %v, %v, want ErrLocale and nothing beside it", b, x, err)
			}
		}
	}
}

// TestBytesStay: P1: bytes that are handed in are not written into and not kept, and those that come out are fresh.
func TestBytesStay(t *testing.T) {
	was := compiled(t, nobody, english()).Save()
	row := []string{"n", "n", "2", "who", "t", "A"}
	room := append(make([]byte, 0, 2*len(was)), was...)
	x := loaded(t, room, english())
	if !bytes.Equal(room, was) || slices.Max(room[len(room):cap(room)]) != 0 {
		t.Errorf("P1: Load wrote into its bytes: %q", room)
	}
	for _, y := range []*phrases.Program{x, compiled(t, nobody, english())} {
		for range 3 {
			clear(room)
			b := y.Save()
			if !bytes.Equal(b, was) {
				t.Errorf("P1: saved as %q, then as %q", was, b)
			}
			for i := range b[:cap(b)] {
				b[:cap(b)][i] = 0xff
			}
			if got, e, _ := plain.Format(y, row); got != "A and 1 other" || e != api.OK {
				t.Errorf("P1: %q, %d", got, e)
			}
		}
	}
}

// TestLoadedElsewhere: bytes have nothing of a locale: they say it in that for which they are loaded.
func TestLoadedElsewhere(t *testing.T) {
	other := api.Locale{Cardinal: []api.Rule{{Name: "few", When: "n = 1000"}}, Minus: '\u2212', Point: ',', Group: '.', First: 3}
	p := "{n} {n,plural,one{one}few{few}other{other}} {n,selectordinal,one{one}other{other}}"
	b := compiled(t, p, english()).Save()
	if again := compiled(t, p, other).Save(); !bytes.Equal(again, b) {
		t.Errorf("P17: %q in another locale: %q", b, again)
	}
	for s, want := range map[string][2]string{"1000": {"1,000 other other", "1.000 few other"}, "1": {"1 one one", "1 other other"}, "-0.5": {"-0.5 other other", "\u22120,5 other other"}} {
		for k, l := range []api.Locale{english(), other} {
			if got, err := loaded(t, b, l).Format(given("n", "n", s)); got != want[k] || err != nil {
				t.Errorf("P17: of %s: %q, %v, want %q", s, got, err, want[k])
			}
		}
	}
}

// TestOneForm: however a pattern is spelt, its bytes are those of its one form; patterns that say other things have others.
func TestOneForm(t *testing.T) {
	seen := make(map[string]string)
	for _, group := range [][]string{
		{"don''t '{x}'", "don't '{x}'", "don't '{x}", "don''t '{'x'}'"},
		{"{n, plural, =1 {a''} other {'#'{n}''{n}}}", "{ n ,plural, =1{a''} other{'#'{n}''{n}}}", "{n,plural,offset:0=1{a''}other\n{'#'{ n }''{n}}}"},
		{"{n, plural, =1 {a''} other {#{n}''{n}}}"}, {"{n, plural, other {#{n}''{n}} =1 {a''}}"}, {"{n, selectordinal, =1 {a''} other {#{n}''{n}}}"}, {"{n, plural, offset:1 =1 {a''} other {#{n}''{n}}}"},
		{"{n, number}", "{\tn\n,\rnumber }"}, {"{n}", "{ n }"}, {"{m}"}, {"n"}, {""},
		{"{s, select, a {{x}'{'} b {#} other {}}", "{s,select,a{{x}'{'}b{#}other{}}", "{s , select , a{{ x }'{'}b {#}\tother\r{}\n}"},
	} {
		want := compiled(t, group[0], english()).Save()
		if p, twice := seen[string(want)]; twice {
			t.Errorf("P17: %q and %q are saved as %q", p, group[0], want)
		}
		seen[string(want)] = group[0]
		for _, p := range group {
			if b := both(t, p, english())[1].Save(); !bytes.Equal(b, want) {
				t.Errorf("P17: %q is saved as %q, %q as %q", group[0], want, p, b)
			}
		}
	}
}

// TestBytesEnd: P1: no bytes make Load panic, and no program that comes of them does.
func TestBytesEnd(t *testing.T) {
	r := rand.New(rand.NewSource(1))
	values := []map[string]api.Value{nil, given("n", "n", "1", "who", "t", "A", "g", "t", "f"), given("n", "t", "1")}
	came := 0
	for _, p := range []string{nobody, ranks, has, asking} {
		b := compiled(t, p, english()).Save()
		b = b[:len(b)-4]
		for range 20000 {
			changed := bytes.Clone(b)
			for range 1 + r.Intn(3) {
				changed[r.Intn(len(b))] = byte(r.Intn(1 + r.Intn(256)))
			}
			x, err := phrases.Load(withSum(string(changed)), english())
			if (x == nil) != (err != nil) || err != nil && !isJust(err, api.ErrBytes) {
				t.Fatalf("P1: Load(%q): %v, %v", changed, x, err)
			}
			for _, args := range values {
				got, first := x.Format(args)
				if again, err := x.FormatBy(by(args)); got != again || first != err || first != nil && got != "" {
					t.Fatalf("P1: %q of %v: %q, %v, then %q, %v", changed, args, got, first, again, err)
				}
			}
			if err == nil {
				came++
			}
		}
	}
	if came < 1000 {
		t.Errorf("only %d programs", came)
	}
}
