package hold

import (
	"slices"

	"lore/api"
	"lore/signs"
)

// Rule is a clause that is ready to make atoms.
type Rule struct {
	Head  api.Atom
	first []api.Literal // they give values to all variables of the head
	rest  []api.Literal // of these it is enough to know whether they hold
}

// RuleOf makes a clause ready, when the variables among the given terms have values.
func RuleOf(c api.Clause, given ...api.Term) Rule {
	body := Ready(c.Body, given...)
	n := enough(body, c.Head, given...)
	return Rule{Head: c.Head, first: body[:n], rest: body[n:]}
}

// Ready lays a body so that it holds from the left on, when the variables among the given terms have values: comparisons and denied atoms as soon as all their variables have them, and of other atoms that one next of which most is known, so that what fails does so early. (Of a body that check lets pass: all these variables get values.)
func Ready(body []api.Literal, given ...api.Term) []api.Literal {
	valued := names{}
	valued.add(given)
	left := slices.Clone(body)
	var ready []api.Literal
	for len(left) > 0 {
		i := valued.next(left)
		ready = append(ready, left[i])
		valued.addGiven(left[i])
		left = slices.Delete(left, i, i+1)
	}
	return ready
}

// enough tells how many literals of a body that is Ready give values to all variables of an atom.
func enough(body []api.Literal, a api.Atom, given ...api.Term) int {
	valued := names{}
	valued.add(given)
	for i, l := range body {
		if valued.count(a.Terms) == len(a.Terms) {
			return i
		}
		valued.addGiven(l)
	}
	return len(body)
}

// Gives tells whether a literal gives values to its variables: an atom that is not denied.
func Gives(l api.Literal) bool {
	return l.Op == "" && !l.Not
}

func termsOf(l api.Literal) []api.Term {
	if l.Op != "" {
		return []api.Term{l.Left, l.Right}
	}
	return l.Atom.Terms
}

// names is a set of variables that have values.
type names map[string]struct{}

func (n names) add(terms []api.Term) {
	for _, t := range terms {
		if t.Kind == signs.Variable {
			n[t.Text] = struct{}{}
		}
	}
}

func (n names) addGiven(l api.Literal) {
	if Gives(l) {
		n.add(l.Atom.Terms)
	}
}

// count tells how many of terms are known: those that are no variables, and the variables that have values.
func (n names) count(terms []api.Term) int {
	known := 0
	for _, t := range terms {
		if _, ok := n[t.Text]; ok || t.Kind != signs.Variable {
			known++
		}
	}
	return known
}

// next tells the number of the literal that is best looked at next.
func (n names) next(left []api.Literal) int {
	best, most := 0, waits
	for i, l := range left {
		if r := n.rank(l); r > most {
			best, most = i, r
		}
	}
	return best
}

// The least and the highest rank; between them stands how many terms are known.
const (
	waits = -1
	whole = signs.MaxTerms + 1
)

func (n names) rank(l api.Literal) int {
	terms := termsOf(l)
	known := n.count(terms)
	if known == len(terms) {
		return whole
	}
	if Gives(l) {
		return known
	}
	return waits
}
