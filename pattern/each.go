package pattern

import "iter"

// Arguments goes through the arguments of a message, also within others, in the order in which their opening braces stand.
func Arguments(m Message) iter.Seq[Argument] {
	return func(yield func(Argument) bool) { visit(m, yield) }
}

// visit tells if there is to be more.
func visit(m Message, yield func(Argument) bool) bool {
	for _, n := range m {
		more := true
		switch n := n.(type) {
		case Simple:
			more = yield(n.Argument)
		case Number:
			more = yield(n.Argument)
		case Select:
			more = yield(n.Argument) && visitBranches(n.Branches, yield)
		case Plural:
			more = yield(n.Argument) && visitBranches(n.Branches, yield)
		}
		if !more {
			return false
		}
	}
	return true
}

func visitBranches(all Branches, yield func(Argument) bool) bool {
	for _, b := range all.List {
		if !visit(b.Message, yield) {
			return false
		}
	}
	return true
}
