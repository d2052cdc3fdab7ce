// Package hold looks for the values with which the body of a clause or a query holds of facts (doc/04-step.md, E2).
package hold

import (
	"lore/api"
	"lore/signs"
	"lore/text"
)

// Values are those of variables, by the variables' names.
type Values map[string]api.Term

// Of tells a term's value; a variable that has none is told itself.
func (v Values) Of(t api.Term) api.Term {
	if t.Kind != signs.Variable {
		return t
	}
	if value, ok := v[t.Text]; ok {
		return value
	}
	return t
}

// Made tells what an atom is with the values.
func (v Values) Made(a api.Atom) api.Atom {
	made := api.Atom{Name: a.Name}
	for _, t := range a.Terms {
		made.Terms = append(made.Terms, v.Of(t))
	}
	return made
}

// Meet gives values to those variables of an atom that have none, so that it is a fact of the same Name. It tells to which, and whether that can be; if not, it gives none.
func (v Values) Meet(a api.Atom, fact api.Atom) ([]string, bool) {
	if len(a.Terms) != len(fact.Terms) {
		return nil, false
	}
	var given []string
	for i, t := range a.Terms {
		t = v.Of(t)
		if t.Kind == signs.Variable {
			v[t.Text] = fact.Terms[i]
			given = append(given, t.Text)
		} else if t != fact.Terms[i] {
			v.Take(given)
			return nil, false
		}
	}
	return given, true
}

// Take takes the values of variables away again.
func (v Values) Take(names []string) {
	for _, name := range names {
		delete(v, name)
	}
}

// Compare tells whether a comparison is true.
func (v Values) Compare(l api.Literal) bool {
	order := text.Order(alone(v.Of(l.Left)), alone(v.Of(l.Right)))
	switch l.Op {
	case "=":
		return order == 0
	case "!=":
		return order != 0
	case "<":
		return order < 0
	case "<=":
		return order <= 0
	case ">":
		return order > 0
	}
	return order >= 0
}

// alone makes an atom of a term: text orders terms within atoms.
func alone(t api.Term) api.Atom {
	return api.Atom{Terms: []api.Term{t}}
}
