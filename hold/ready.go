package hold

import (
	"lore/api"
	"lore/signs"
)

// Ready lays a body so that it holds from the left on: comparisons and denied atoms right behind the atoms that give values to their variables, so that what fails does so early. (Of a body that check lets pass: all these variables get values.)
func Ready(body []api.Literal) []api.Literal {
	var giving, waiting []api.Literal
	for _, l := range body {
		if gives(l) {
			giving = append(giving, l)
		} else {
			waiting = append(waiting, l)
		}
	}
	valued := names{}
	ready, waiting := valued.settle(nil, waiting)
	for _, l := range giving {
		valued.add(l.Atom.Terms)
		ready, waiting = valued.settle(append(ready, l), waiting)
	}
	return ready
}

// Enough tells how many literals of a body that is Ready give values to all variables of an atom: for the rest it is enough to know whether it holds.
func Enough(body []api.Literal, a api.Atom) int {
	valued := names{}
	for i, l := range body {
		if valued.haveAll(a.Terms) {
			return i
		}
		if gives(l) {
			valued.add(l.Atom.Terms)
		}
	}
	return len(body)
}

// gives tells whether a literal gives values to its variables: an atom that is not denied.
func gives(l api.Literal) bool {
	return l.Op == "" && !l.Not
}

func termsOf(l api.Literal) []api.Term {
	if l.Op != "" {
		return []api.Term{l.Left, l.Right}
	}
	return l.Atom.Terms
}

// names is a set of variables.
type names map[string]struct{}

func (n names) add(terms []api.Term) {
	for _, t := range terms {
		if t.Kind == signs.Variable {
			n[t.Text] = struct{}{}
		}
	}
}

func (n names) haveAll(terms []api.Term) bool {
	for _, t := range terms {
		if _, ok := n[t.Text]; t.Kind == signs.Variable && !ok {
			return false
		}
	}
	return true
}

// settle moves those that wait for no variable any more behind what is ready, and tells which still wait.
func (n names) settle(ready []api.Literal, waiting []api.Literal) (settled []api.Literal, still []api.Literal) {
	for _, l := range waiting {
		if n.haveAll(termsOf(l)) {
			ready = append(ready, l)
		} else {
			still = append(still, l)
		}
	}
	return ready, still
}
