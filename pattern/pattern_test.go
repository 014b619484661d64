package pattern

import (
	"reflect"
	"testing"
)

// branch is one by a word, or, if that is empty, by a value.
func branch(word string, value uint32, at int, m ...Node) Branch {
	return Branch{Selector: Selector{Word: word, Value: value}, At: at, Message: m}
}

// TestNew: what a pattern's parts are, and where they stand.
func TestNew(t *testing.T) {
	for p, want := range map[string]Message{
		"":                              nil,
		"abc":                           {Text{"abc"}},
		"a{b}":                          {Text{"a"}, Simple{Argument{"b", 1}}},
		"\u00e9\U0001F600{b , number}c": {Text{"\u00e9\U0001F600"}, Number{Argument{"b", 2}}, Text{"c"}},
		"{s,select,a{#}other{'# }}": {Select{Argument{"s", 0}, Branches{[]Branch{
			branch("a", 0, 10, Text{"#"}), branch("other", 0, 14, Text{"'# "}),
		}, 24}}},
		"{n,plural,offset:7 =0{#}other{'#'#}}": {Plural{Argument{"n", 0}, false, 7, Branches{[]Branch{
			branch("", 0, 19, Sign{}), branch("other", 0, 24, Text{"#"}, Sign{}),
		}, 35}}},
		"{n,selectordinal,=999999999{}other{{s,select,other{#}}#}}": {Plural{Argument{"n", 0}, true, 0, Branches{[]Branch{
			branch("", 999999999, 17), branch("other", 0, 29, Select{Argument{"s", 35}, Branches{[]Branch{
				branch("other", 0, 45, Text{"#"}),
			}, 53}}, Sign{}),
		}, 56}}},
	} {
		if got, err := New(p); !reflect.DeepEqual(got, want) || err != nil {
			t.Errorf("P8: %q: %#v, %v, want %#v", p, got, err, want)
		}
	}
}

// TestSaid: apostrophes and quotes, outside of a branch, in one by text and in one by number, where @ shows the number.
func TestSaid(t *testing.T) {
	for _, c := range []struct{ text, said, byNumber string }{
		{"a", "a", "a"}, {"don't", "don't", "don't"}, {"'a'", "'a'", "'a'"}, {"a'' ''b", "a' 'b", "a' 'b"},
		{"'{'", "{", "{"}, {"'}'", "}", "}"}, {"'{x}' ''", "{x} '", "{x} '"}, {"'{''}'", "{'}", "{'}"},
		{"'''{'", "'{", "'{"}, {"'''''}'''", "''}'", "''}'"}, {"'{'''", "{'", "{'"}, {"'{''''}'", "{''}", "{''}"},
		{"'{'a'}'", "{a}", "{a}"}, {"'{'a' b", "{a' b", "{a' b"}, {"a'b'{c'd", "a'b{cd", "a'b{cd"},
		{"#", "#", "@"}, {"'#'", "'#'", "#"}, {"''#", "'#", "'@"}, {"'''#'", "''#'", "'#"}, {"'##' #'", "'##' #'", "## @'"}, {"'a#'", "'a#'", "'a@'"}, {"'{#'#", "{##", "{#@"}, {"'#'#'#'", "'#'#'#'", "#@#"}, {"'#''#'", "'#'#'", "#'#"},
		{"''a", "'a", "'a"}, {"' '", "' '", "' '"}, {"'\u00e9'", "'\u00e9'", "'\u00e9'"}, {"'\ufffd'\x00", "'\ufffd'\x00", "'\ufffd'\x00"},
	} {
		for _, branch := range []struct{ head, tail, want string }{
			{"", "-", c.said}, {"{s,select,other{", "-}}", c.said},
			{"{n,plural,other{", "-}}", c.byNumber}, {"{n,selectordinal,other{", "-}}", c.byNumber},
			{"{n,plural,other{{s,select,other{", "-}}}}", c.said}, {"{s,select,other{{n,plural,other{", "-}}}}", c.byNumber},
		} {
			m, err := New(branch.head + c.text + branch.tail)
			if got := says(m); got != branch.want+"-" || err != nil {
				t.Errorf("P8: %s%s%s says %q, %v, want %q", branch.head, c.text, branch.tail, got, err, branch.want)
			}
		}
	}
	for p, want := range map[string]string{"'": "'", "a'": "a'", "''": "'", "'''": "''", "'{": "{", "'{a": "{a", "'}''": "}'", "'}'": "}", "'{'''": "{'"} {
		if m, err := New(p); says(m) != want || err != nil {
			t.Errorf("P8: %s, up to the end of the text, says %q, %v, want %q", p, says(m), err, want)
		}
	}
}

// says tells the texts of a message and of the first branches within it.
func says(m Message) string {
	all := ""
	for _, n := range m {
		switch n := n.(type) {
		case Text:
			all += n.Said
		case Sign:
			all += "@"
		case Select:
			all += says(n.List[0].Message)
		case Plural:
			all += says(n.List[0].Message)
		}
	}
	return all
}
