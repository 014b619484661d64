package bytecode

import (
	"encoding/binary"
	"errors"
	"math/rand"
	"slices"
	"strings"
	"testing"

	"phrases/api"
	"phrases/locale"
)

// grower makes a program's bytes by chance, instruction by instruction.
type grower struct {
	*rand.Rand
	code    []byte
	entered int
	open    []slot // targets that are not set yet
}

// slot is where a target stands, and how many numbers are entered on that way.
type slot struct{ at, entered int }

// grown are the constants of what a grower makes. The first five are names.
func grown() []string {
	return []string{"n", "m", "s", "t", "n", "", "a", "b", "a", "\xff{", "1", strings.Repeat("v", 61)}
}

func (g *grower) two(n int) { g.code = binary.BigEndian.AppendUint16(g.code, uint16(n)) }

func (g *grower) target() {
	g.open = append(g.open, slot{len(g.code), g.entered})
	g.two(0)
}

// land sets open targets here: of those with as many numbers each by chance, or all.
func (g *grower) land(all bool) {
	g.open = slices.DeleteFunc(g.open, func(s slot) bool {
		here := s.entered == g.entered && (all || g.Intn(3) == 0)
		if here {
			binary.BigEndian.PutUint16(g.code[s.at:], uint16(len(g.code)))
		}
		return here
	})
}

// grow makes so many instructions, and then what closes all ways.
func (g *grower) grow(left int) {
	for follows := true; follows || len(g.open) > 0; left-- {
		if !follows {
			k := g.Intn(len(g.open))
			g.entered = g.open[k].entered
			binary.BigEndian.PutUint16(g.code[g.open[k].at:], uint16(len(g.code)))
			g.open = slices.Delete(g.open, k, k+1)
		}
		g.land(left <= 0)
		switch {
		case left > 0:
			follows = g.any()
		case g.entered > 0:
			g.leave()
			follows = true
		default:
			g.code = append(g.code, 0)
			follows = false
		}
	}
}

func (g *grower) leave() {
	g.code = append(g.code, 5)
	g.entered--
}

func (g *grower) number() {
	g.code = binary.BigEndian.AppendUint32(g.code, []uint32{0, 1, 2, 1000, 999999999}[g.Intn(5)])
}

// any makes some instruction that may stand here, and tells if the next follows it.
func (g *grower) any() bool {
	kind := g.Intn(12)
	if g.entered == 0 && kind >= 5 && kind <= 9 || g.entered == 6 && kind == 4 || g.entered > 0 && kind == 0 {
		kind = 1 + g.Intn(3)
	}
	switch kind {
	case 5:
		g.leave()
		return true
	case 0:
		g.code = append(g.code, 0)
		return false
	}
	g.code = append(g.code, byte(kind))
	switch kind {
	case 1:
		g.two(g.Intn(len(grown())))
	case 2:
		g.two(g.Intn(5))
	case 3:
		g.two(g.Intn(2))
	case 4:
		g.two(g.Intn(2))
		g.number()
		g.entered++
	case 7:
		g.number()
		g.target()
	case 8, 9:
		for range 6 {
			g.target()
		}
	case 10:
		g.two(2 + g.Intn(2))
		n := g.Intn(4)
		g.two(n)
		for range n {
			g.two(g.Intn(len(grown())))
			g.target()
		}
		g.target()
	case 11:
		g.target()
	}
	return kind < 8
}

// some are arguments by chance.
func (g *grower) some() (args map[string]api.Value, boom string) {
	args = make(map[string]api.Value)
	pick := func(list ...string) string { return list[g.Intn(len(list))] }
	for _, name := range []string{"n", "m", "s", "t"} {
		number := name == "n" || name == "m"
		switch g.Intn(40) {
		case 0:
			continue
		case 1:
			number = !number
		case 2:
			args[name] = api.Value{Text: pick("-0", "", strings.Repeat("v", 61)), Number: true}
			continue
		case 3:
			args[name] = api.Value{Text: strings.Repeat("v", 61)}
			continue
		}
		args[name] = api.Value{Text: pick("", "a", "b", "\xff{", "1", "z")}
		if number {
			args[name] = api.Value{Text: pick("0", "1", "1.0", "2", "3", "21", "-1", "999999999.00", "1000", "0.5"), Number: true}
		}
	}
	if g.Intn(20) == 0 {
		boom = pick("n", "m", "s", "t")
	}
	return args, boom
}

func chanced(t testing.TB) locale.Locale {
	in, err := locale.New(api.Locale{
		Cardinal: []api.Rule{{Name: "one", When: "i = 1 and v = 0"}, {Name: "zero", When: "n = 0"}, {Name: "few", When: "n = 2..4"}, {Name: "many", When: "v = 1"}},
		Ordinal:  []api.Rule{{Name: "two", When: "n % 10 = 1"}, {Name: "many", When: "n = 0"}},
		Minus:    '-', Point: ',', Group: '.', First: 3,
	})
	if err != nil {
		t.Fatal(err)
	}
	return in
}

// meets holds Read, and how its program runs, against the judge and the teller.
func meets(t testing.TB, b []byte, in locale.Locale, args map[string]api.Value, boom string) (right bool, e api.Errno) {
	t.Helper()
	steps, ok := judged(b)
	was := string(b)
	code, err := Read(b)
	if ok != (err == nil) || ok != (code != nil) || !ok && !errors.Is(err, api.ErrBytes) || string(b) != was {
		t.Fatalf("P16: %q: %v, to be a program: %v", b, err, ok)
	}
	if !ok {
		return false, api.OK
	}
	want := teller{in: in, args: args, boom: boom}
	want.obey(steps)
	var asked []string
	got, err := code.Run(in, func(name string) (api.Value, bool) {
		asked = append(asked, name)
		if name == boom {
			panic(name)
		}
		v, ok := args[name]
		return v, ok
	})
	if e, _ := api.Tell(err); got != want.said || e != want.err || !slices.Equal(asked, want.asked) {
		t.Fatalf("P17: %q of %v, panic at %q: %q, %v, asked %v, want %q, %d, asked %v", b, args, boom, got, err, asked, want.said, want.err, want.asked)
	}
	return true, want.err
}

// TestByChance: programs that were grown, and these with a few bytes changed.
func TestByChance(t *testing.T) {
	in := chanced(t)
	met, mets := make(map[api.Errno]int), make(map[bool]int)
	for seed := range int64(6000) {
		g := &grower{Rand: rand.New(rand.NewSource(seed))}
		g.grow(g.Intn(30))
		args, boom := g.some()
		b := laid(grown(), g.code)
		right, e := meets(t, b, in, args, boom)
		if !right {
			t.Fatalf("%q was grown wrong", b)
		}
		met[e]++
		for range 10 {
			changed := slices.Clone(b[:len(b)-4])
			for range 1 + g.Intn(2) {
				g.change(changed, len(changed)-len(g.code))
			}
			right, _ := meets(t, summed(changed), in, args, boom)
			mets[right]++
		}
	}
	for _, e := range []api.Errno{api.OK, api.ErrArgs, api.ErrMissing, api.ErrWrong, api.ErrGet} {
		if met[e] < 50 {
			t.Errorf("only %d programs of %d", met[e], e)
		}
	}
	if mets[true] < 5000 || mets[false] < 5000 {
		t.Errorf("of those that were changed: %v", mets)
	}
}

// change changes a byte, mostly one of the code, and mostly by little.
func (g *grower) change(b []byte, code int) {
	at := g.Intn(len(b))
	if g.Intn(4) > 0 {
		at = code + g.Intn(len(b)-code)
	}
	switch g.Intn(3) {
	case 0:
		b[at] = byte(g.Intn(256))
	case 1:
		b[at] ^= 1 << g.Intn(4)
	default:
		b[at] += byte(g.Intn(7) - 3)
	}
}

// FuzzRead: whatever the bytes are.
func FuzzRead(f *testing.F) {
	for _, words := range right() {
		b := laid(constants(), spelt(words))
		f.Add(b[:len(b)-4])
	}
	for seed := range int64(100) {
		g := &grower{Rand: rand.New(rand.NewSource(seed))}
		g.grow(g.Intn(20))
		b := laid(grown()[:11], g.code)
		f.Add(b[:len(b)-4])
	}
	args := map[string]api.Value{"n": {Text: "1", Number: true}, "m": {Text: "-2.5", Number: true}, "s": {Text: "a"}}
	f.Fuzz(func(t *testing.T, b []byte) {
		meets(t, b, chanced(t), args, "t")
		meets(t, summed(b), chanced(t), args, "t")
	})
}
