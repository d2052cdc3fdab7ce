// Package why tells reasons: see doc/06-why.md.
package why

import (
	"lore/api"
	"lore/model"
	"lore/rows"
)

// Why tells why something is in the model (H3).
func Why(s string, facts []api.Atom, goal api.Atom) ([]api.Reason, api.Errno, int) {
	m, e, place := model.Model(s, facts)
	switch {
	case e != api.OK:
		return nil, e, place
	case !rows.Fact(goal):
		return nil, api.ErrFact, 0
	case !rows.Has(m, goal):
		return nil, api.ErrNone, 0
	}
	return reasons(s, facts, goal), api.OK, 0
}

// Right tells whether reasons are right (H2).
func Right(s string, facts []api.Atom, l []api.Reason) bool {
	m, e, _ := model.Model(s, facts)
	return e == api.OK && allRight(newJudge(s, facts, m), l)
}
