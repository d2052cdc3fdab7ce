// Package fit tells whether facts fit a program (doc/04-step.md, E1).
package fit

import (
	"lore/api"
	"lore/rows"
)

// Terms tells how many each Name has that stands in a program.
type Terms map[string]int

// Of takes them from what check answers.
func Of(levels []api.Level) Terms {
	t := Terms{}
	for _, l := range levels {
		t[l.Name] = l.Terms
	}
	return t
}

// Look tells OK of an atom that fits; of one that does not, ErrFact, if it is no fact, else ErrArity.
func (t Terms) Look(a api.Atom) api.Errno {
	if !rows.Fact(a) {
		return api.ErrFact
	}
	if n, stands := t[a.Name]; stands && n != len(a.Terms) {
		return api.ErrArity
	}
	return api.OK
}
