package pattern

import (
	"strconv"
	"strings"
)

// Canon writes a whole pattern in its one form.
func Canon(whole Message) string {
	var w writer
	w.message(whole, false)
	return w.String()
}

type writer struct {
	strings.Builder
}

func (w *writer) all(texts ...string) {
	for _, t := range texts {
		w.WriteString(t)
	}
}

func (w *writer) message(m Message, byNumber bool) {
	for _, n := range m {
		switch n := n.(type) {
		case Text:
			w.text(n.Said, byNumber)
		case Sign:
			w.all("#")
		case Simple:
			w.all("{", n.Name, "}")
		case Number:
			w.all("{", n.Name, ", number}")
		case Select:
			w.all("{", n.Name, ", select,")
			w.branches(n.Branches, false)
		case Plural:
			w.all("{", n.Name, ", ", wordOf(n), ",", offsetOf(n))
			w.branches(n.Branches, true)
		}
	}
}

func wordOf(n Plural) string {
	if n.Ordinal {
		return "selectordinal"
	}
	return "plural"
}

func offsetOf(n Plural) string {
	if n.Offset == 0 {
		return ""
	}
	return " offset:" + decimal(n.Offset)
}

func decimal(v uint32) string { return strconv.FormatUint(uint64(v), 10) }

// branches writes the brace that closes the argument, too.
func (w *writer) branches(all Branches, byNumber bool) {
	for _, b := range all.List {
		w.all(" ", selectorOf(b), " {")
		w.message(b.Message, byNumber)
		w.all("}")
	}
	w.all("}")
}

func selectorOf(b Branch) string {
	if b.Word == "" {
		return "=" + decimal(b.Value)
	}
	return b.Word
}

// text writes a text so that it stands for itself again.
func (w *writer) text(said string, byNumber bool) {
	inRun := func(c rune) bool { return c == '\'' || isSpecial(c, byNumber) }
	outOfRun := func(c rune) bool { return !inRun(c) }
	for said != "" {
		n := lengthUpTo(said, inRun)
		w.all(said[:n])
		said = said[n:]
		n = lengthUpTo(said, outOfRun)
		w.run(said[:n])
		said = said[n:]
	}
}

// lengthUpTo tells how many bytes stand ahead of the first code point that is such.
func lengthUpTo(text string, such func(rune) bool) int {
	if n := strings.IndexFunc(text, such); n >= 0 {
		return n
	}
	return len(text)
}

// run writes apostrophes and what must be quoted, which stand together.
func (w *writer) run(run string) {
	doubled := strings.ReplaceAll(run, "'", "''")
	if strings.Trim(run, "'") == "" {
		w.all(doubled)
		return
	}
	w.all("'", doubled, "'")
}
